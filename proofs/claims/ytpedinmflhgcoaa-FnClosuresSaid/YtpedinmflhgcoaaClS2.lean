/- Contracts of the model's CloseFrame, for the other flags. Conditions: those in the theorems. -/
import Derived.Test.YtpedinmflhgcoaaClS
import Derived.Test.YtpedinmflhgcoaaPrt2
namespace Go.Proofs.Ytpedinmflhgcoaa
open Go.RowKit

set_option maxHeartbeats 2000000 in
set_option maxRecDepth 100000 in
theorem specClose0_any (xs : List Int) (a : Option Addr) (cap : Nat) (w : World) (hl : xs.length ≤ 1048576) (hf : frB xs.length xs = true) (h : At w a xs.length xs) (hca : a = none → cap = 0) :
    Calls Try.prog 31 #[.agg #[.int .i64 xs.length, .slice a xs.length cap], .int .i64 0] w fun e w' => RF w' w.heap.size (rfTo xs xs.length).length 0 (rfTo xs xs.length) e ∧ Below w.heap.size w w' := by
  obtain ⟨W, hW, HB, X, Z, hWs⟩ := boxF1 w xs.length a xs.length cap
  have H := Lib.hid (h.keep HB.out (Nat.le_refl _))
  have hz0 : w.heap.size + 1 + 1 ≤ W.heap.size := by omega
  have HW := Lib.hid hW
  have F0 := Lib.hid hf
  have CA := Lib.hid hca
  obtain ⟨-, h8, -, hr⟩ := frB_ok hf
  clear h hWs hW hf hr hca
  have hl5 : (rfTo xs xs.length).length ≤ 1048576 := by rw [rfTo_len]; exact hl
  go_enter Try.func31, Try.ntmps31
  go_wp2_with fail
  rw [← HW.out]
  refine (l05Is_any _ xs _ _ _ _ hl H.out).mono ?_
  rw [F0.out]
  rintro e w1 ⟨rfl, hb⟩
  have B1 := Lib.hid (HB.out.trans (hb.mono HB.out.size))
  have Z1 := Lib.hid (Z.out.keep hb)
  have H1 := Lib.hid (H.out.keep hb (Nat.le_refl _))
  have hz1 := hb.size
  obtain ⟨lt, x0, x0'⟩ := X.out.keep hb
  clear hb
  go_wp2_with fail
  clear x0 x0'
  refine (l01Own_any xs _ _ _ _ (by omega) H1.out CA.out).mono ?_
  rintro e w2 ⟨g, cap', rfl, hg, hown, hb⟩
  have OW2 := Lib.hid (show Own w2 w1.heap.size (.slice (some ⟨g, 0, none⟩) xs.length cap') xs from hown)
  have B2 := Lib.hid (B1.out.trans (hb.mono B1.out.size))
  have hz2 := hb.size
  have Z2 := Lib.hid (Z1.out.keep hb)
  clear hown hb
  obtain ⟨a4, k4, e4, hat4, -, -, -⟩ := OW2.out.at
  cases e4
  have H4 := Lib.hid hat4
  clear hat4
  obtain ⟨w4, hw4⟩ : ∃ w4 : World, w4 = w2 := ⟨_, rfl⟩
  go_wp2_with fail
  refine (l01Reflexive_any xs _ _ _ _ (by omega) H4.out).mono ?_
  rintro e w5 ⟨v5, rfl, ho, hb⟩
  subst hw4
  have OE := Lib.hid (show Own w5 w4.heap.size v5 (rfTo xs xs.length) from ho)
  have B5 := Lib.hid (B2.out.trans (hb.mono B2.out.size))
  have hz5 := hb.size
  have Z5 := Lib.hid (Z2.out.keep hb)
  clear ho hb
  obtain ⟨a5, k5, e5, hat5, -, hn5, -⟩ := OE.out.at
  subst e5
  have H5 := Lib.hid hat5
  have N5 := Lib.hid hn5
  clear hat5 hn5
  go_wp2_with fail
  refine (l05Make_any (rfTo xs xs.length) _ _ _ _ hl5 H5.out N5.out).mono ?_
  rintro e w9 ⟨v3, rfl, ho, hb⟩
  obtain ⟨a3, k3, rfl⟩ := ho.form
  obtain ⟨lt, z0, z1, z2, z3⟩ := Z5.out.keep hb
  have B6 := Lib.hid (B5.out.trans (hb.mono B5.out.size))
  have O3 := Lib.hid ho
  clear ho hb
  go_wp2
  exact bodyPost_ret (v := .tuple #[.agg #[.int .i64 (rfTo xs xs.length).length, .slice a3 (rfTo xs xs.length).length k3], .int .i64 0]) (by simp [results, Try.results31, go_sem, z0, z1]) rfl ⟨RF.good rfl rfl rfl (O3.out.out2 (by omega)) (by omega), (B6.out.setCell (by show _ ≤ _; simp) _).setCell (by show _ ≤ _; simp) _⟩

set_option maxHeartbeats 2000000 in
set_option maxRecDepth 100000 in
theorem specClose2_any (xs : List Int) (a : Option Addr) (cap : Nat) (w : World) (hl : xs.length ≤ 1048576) (hf : frB xs.length xs = true) (h : At w a xs.length xs) (hca : a = none → cap = 0) :
    Calls Try.prog 31 #[.agg #[.int .i64 xs.length, .slice a xs.length cap], .int .i64 2] w fun e w' => RF w' w.heap.size (csL xs).length 0 (csL xs) e ∧ Below w.heap.size w w' := by
  obtain ⟨W, hW, HB, X, Z, hWs⟩ := boxF1 w xs.length a xs.length cap
  have H := Lib.hid (h.keep HB.out (Nat.le_refl _))
  have hz0 : w.heap.size + 1 + 1 ≤ W.heap.size := by omega
  have HW := Lib.hid hW
  have F0 := Lib.hid hf
  have CA := Lib.hid hca
  obtain ⟨-, h8, -, hr⟩ := frB_ok hf
  clear h hWs hW hf hr hca
  have hl5 : (csL xs).length ≤ 1048576 := by rw [show (csL xs).length = xs.length from tab_len _ _]; exact hl
  go_enter Try.func31, Try.ntmps31
  go_wp2_with fail
  rw [← HW.out]
  refine (l05Is_any _ xs _ _ _ _ hl H.out).mono ?_
  rw [F0.out]
  rintro e w1 ⟨rfl, hb⟩
  have B1 := Lib.hid (HB.out.trans (hb.mono HB.out.size))
  have Z1 := Lib.hid (Z.out.keep hb)
  have H1 := Lib.hid (H.out.keep hb (Nat.le_refl _))
  have hz1 := hb.size
  obtain ⟨lt, x0, x0'⟩ := X.out.keep hb
  clear hb
  go_wp2_with fail
  clear x0 x0'
  refine (l01Own_any xs _ _ _ _ (by omega) H1.out CA.out).mono ?_
  rintro e w2 ⟨g, cap', rfl, hg, hown, hb⟩
  have OW2 := Lib.hid (show Own w2 w1.heap.size (.slice (some ⟨g, 0, none⟩) xs.length cap') xs from hown)
  have B2 := Lib.hid (B1.out.trans (hb.mono B1.out.size))
  have hz2 := hb.size
  have Z2 := Lib.hid (Z1.out.keep hb)
  clear hown hb
  obtain ⟨a4, k4, e4, hat4, -, -, -⟩ := OW2.out.at
  cases e4
  have H4 := Lib.hid hat4
  clear hat4
  obtain ⟨w4, hw4⟩ : ∃ w4 : World, w4 = w2 := ⟨_, rfl⟩
  go_wp2_with fail
  refine (l01Closure_any xs _ _ _ _ (by omega) H4.out (fun h => by cases h)).mono ?_
  rintro e w5 ⟨v5, rfl, ho, hb⟩
  subst hw4
  have OE := Lib.hid (show Own w5 w4.heap.size v5 (csL xs) from ho)
  have B5 := Lib.hid (B2.out.trans (hb.mono B2.out.size))
  have hz5 := hb.size
  have Z5 := Lib.hid (Z2.out.keep hb)
  clear ho hb
  obtain ⟨a5, k5, e5, hat5, -, hn5, -⟩ := OE.out.at
  subst e5
  have H5 := Lib.hid hat5
  have N5 := Lib.hid hn5
  clear hat5 hn5
  go_wp2_with fail
  refine (l05Make_any (csL xs) _ _ _ _ hl5 H5.out N5.out).mono ?_
  rintro e w9 ⟨v3, rfl, ho, hb⟩
  obtain ⟨a3, k3, rfl⟩ := ho.form
  obtain ⟨lt, z0, z1, z2, z3⟩ := Z5.out.keep hb
  have B6 := Lib.hid (B5.out.trans (hb.mono B5.out.size))
  have O3 := Lib.hid ho
  clear ho hb
  go_wp2
  exact bodyPost_ret (v := .tuple #[.agg #[.int .i64 (csL xs).length, .slice a3 (csL xs).length k3], .int .i64 0]) (by simp [results, Try.results31, go_sem, z0, z1]) rfl ⟨RF.good rfl rfl rfl (O3.out.out2 (by omega)) (by omega), (B6.out.setCell (by show _ ≤ _; simp) _).setCell (by show _ ≤ _; simp) _⟩

set_option maxHeartbeats 2000000 in
set_option maxRecDepth 100000 in
theorem specCloseNo_any (f : Int) (hk : knF f = false) (xs : List Int) (a : Option Addr) (cap : Nat) (w : World) (hl : xs.length ≤ 1048576) (hf : frB xs.length xs = true) (h : At w a xs.length xs) (hca : a = none → cap = 0) :
    Calls Try.prog 31 #[.agg #[.int .i64 xs.length, .slice a xs.length cap], .int .i64 f] w fun e w' => e = .returned (.tuple #[.agg #[.int .i64 0, .slice none 0 0], .int .i64 2]) ∧ Below w.heap.size w w' := by
  obtain ⟨f0, f2, f3, f4⟩ := kn_not hk
  clear hk
  obtain ⟨W, hW, HB, X, Z, hWs⟩ := boxF1 w xs.length a xs.length cap
  have H := Lib.hid (h.keep HB.out (Nat.le_refl _))
  have hz0 : w.heap.size + 1 + 1 ≤ W.heap.size := by omega
  have HW := Lib.hid hW
  have F0 := Lib.hid hf
  have CA := Lib.hid hca
  obtain ⟨-, h8, -, hr⟩ := frB_ok hf
  clear h hWs hW hf hr hca
  go_enter Try.func31, Try.ntmps31
  go_wp2_with fail
  rw [← HW.out]
  refine (l05Is_any _ xs _ _ _ _ hl H.out).mono ?_
  rw [F0.out]
  rintro e w1 ⟨rfl, hb⟩
  have B1 := Lib.hid (HB.out.trans (hb.mono HB.out.size))
  have Z1 := Lib.hid (Z.out.keep hb)
  have H1 := Lib.hid (H.out.keep hb (Nat.le_refl _))
  have hz1 := hb.size
  obtain ⟨lt, x0, x0'⟩ := X.out.keep hb
  clear hb
  go_wp2_with fail
  clear x0 x0'
  refine (l01Own_any xs _ _ _ _ (by omega) H1.out CA.out).mono ?_
  rintro e w2 ⟨g, cap', rfl, hg, hown, hb⟩
  have B2 := Lib.hid (B1.out.trans (hb.mono B1.out.size))
  obtain ⟨lt, z0, z1, z2, z3⟩ := Z1.out.keep hb
  clear hown hb
  go_wp2
  exact bodyPost_ret (v := .tuple #[.agg #[.int .i64 0, .slice none 0 0], .int .i64 2]) (by simp [results, Try.results31, go_sem, z0, z1]) rfl ⟨rfl, (B2.out.setCell (by show _ ≤ _; simp) _).setCell (by show _ ≤ _; simp) _⟩

set_option maxHeartbeats 2000000 in
set_option maxRecDepth 100000 in
theorem specCloseBad_any (n f : Int) (xs : List Int) (a : Option Addr) (cap : Nat) (w : World) (hl : xs.length ≤ 1048576) (hf : frB n xs = false) (h : At w a xs.length xs) :
    Calls Try.prog 31 #[.agg #[.int .i64 n, .slice a xs.length cap], .int .i64 f] w fun e w' => e = .returned (.tuple #[.agg #[.int .i64 0, .slice none 0 0], .int .i64 1]) ∧ Below w.heap.size w w' := by
  obtain ⟨W, hW, HB, X, Z, hWs⟩ := boxF1 w n a xs.length cap
  have H := Lib.hid (h.keep HB.out (Nat.le_refl _))
  have HW := Lib.hid hW
  have F0 := Lib.hid hf
  clear h hWs hW hf
  go_enter Try.func31, Try.ntmps31
  go_wp2_with fail
  rw [← HW.out]
  refine (l05Is_any _ xs _ _ _ _ hl H.out).mono ?_
  rw [F0.out]
  rintro e w1 ⟨rfl, hb⟩
  have B1 := Lib.hid (HB.out.trans (hb.mono HB.out.size))
  obtain ⟨lt, z0, z1, z2, z3⟩ := Z.out.keep hb
  clear hb
  go_wp2
  exact bodyPost_ret (v := .tuple #[.agg #[.int .i64 0, .slice none 0 0], .int .i64 1]) (by simp [results, Try.results31, go_sem, z0, z1]) rfl ⟨rfl, (B1.out.setCell (by show _ ≤ _; simp) _).setCell (by show _ ≤ _; simp) _⟩

theorem At.setO {w : World} {a : Option Addr} {len g o : Nat} {xs : List Int} {v : Value} (h : At w a len xs) (hne : ∀ p, a = some p → p.block ≠ g) : At (w.setCell ⟨g, o, none⟩ v) a len xs := by
  refine ⟨h.1, ?_⟩
  rcases h.2 with h2 | ⟨b, off, ha, hlt, hc⟩
  · exact .inl h2
  · exact .inr ⟨b, off, ha, by simpa using hlt, fun j hj => (World.cell?_setCell_other _ _ _ _ (fun e => hne _ ha (by cases e; rfl))).trans (hc j hj)⟩

set_option maxHeartbeats 2000000 in
set_option maxRecDepth 100000 in
theorem specClose3_any (xs : List Int) (a : Option Addr) (cap : Nat) (w : World) (hl : xs.length ≤ 1048576) (hf : frB xs.length xs = true) (h : At w a xs.length xs) (hca : a = none → cap = 0) :
    Calls Try.prog 31 #[.agg #[.int .i64 xs.length, .slice a xs.length cap], .int .i64 3] w fun e w' => RF w' w.heap.size (opL .or xs (bsL xs) xs.length).length 0 (opL .or xs (bsL xs) xs.length) e ∧ Below w.heap.size w w' := by
  obtain ⟨W, hW, HB, X, Z, hWs⟩ := boxF1 w xs.length a xs.length cap
  have H := Lib.hid (h.keep HB.out (Nat.le_refl _))
  have hz0 : w.heap.size + 1 + 1 ≤ W.heap.size := by omega
  have HW := Lib.hid hW
  have F0 := Lib.hid hf
  have CA := Lib.hid hca
  obtain ⟨-, h8, -, hr⟩ := frB_ok hf
  clear h hWs hW hf hr hca
  have hl5 : (opL .or xs (bsL xs) xs.length).length ≤ 1048576 := by rw [opL_len]; exact hl
  go_enter Try.func31, Try.ntmps31
  go_wp2_with fail
  rw [← HW.out]
  refine (l05Is_any _ xs _ _ _ _ hl H.out).mono ?_
  rw [F0.out]
  rintro e w1 ⟨rfl, hb⟩
  have B1 := Lib.hid (HB.out.trans (hb.mono HB.out.size))
  have Z1 := Lib.hid (Z.out.keep hb)
  have H1 := Lib.hid (H.out.keep hb (Nat.le_refl _))
  have hz1 := hb.size
  obtain ⟨lt, x0, x0'⟩ := X.out.keep hb
  clear hb
  go_wp2_with fail
  clear x0 x0'
  refine (l01Own_any xs _ _ _ _ (by omega) H1.out CA.out).mono ?_
  rintro e w2 ⟨g, cap', rfl, hg, hown, hb⟩
  have hown' : RowO w2 w1.heap.size (.slice (some ⟨g, 0, none⟩) xs.length cap') xs.length (nth xs) := by unfold RowO; rw [tab_self]; exact hown
  have OW2 := Lib.hid (show Own w2 w1.heap.size (.slice (some ⟨g, 0, none⟩) xs.length cap') xs from hown)
  have O2 := Lib.hid hown'
  have B2 := Lib.hid hb
  have hz2 := hb.size
  clear hown hown' hb
  obtain ⟨a4, k4, e4, hat4, -, -, hlt4⟩ := OW2.out.at
  cases e4
  have H4 := Lib.hid hat4
  clear hat4
  go_wp2_with fail
  refine (l01Inverse_any xs _ _ _ _ (by omega) H4.out).mono ?_
  rintro e w3 ⟨v3, rfl, ho, hb⟩
  have O3 := Lib.hid (show Own w3 w2.heap.size v3 (bsL xs) from ho)
  have OX := Lib.hid (show RowO w3 w1.heap.size (.slice (some ⟨g, 0, none⟩) xs.length cap') xs.length (nth xs) from by have k := OW2.out.keep hb (Nat.le_refl _); unfold RowO; rw [tab_self]; exact k)
  have B3 := Lib.hid (B2.out.trans (hb.mono B2.out.size))
  have Z3 := Lib.hid (Z1.out.keep B3.out)
  have hz3 := hb.size
  clear ho hb
  obtain ⟨a5, k5, e5, hat5, -, -, hb5⟩ := O3.out.at
  subst e5
  have NE := Lib.hid (fun p (hp : a5 = some p) => (by have k1 := (hb5 p hp).1; have k2 := (hlt4 _ rfl).2; have k3 : g < w2.heap.size := k2; omega : p.block ≠ g))
  clear hb5 hlt4
  rw [bsL_len] at hat5
  have H5 := Lib.hid hat5
  clear hat5
  rw [bsL_len]
  go_wp2
  go_loopw [8] (fun i wr => ∃ k : Nat, k ≤ xs.length ∧ i = .int .i64 k ∧ Hid (RowO wr w1.heap.size (.slice (some ⟨g, 0, none⟩) xs.length cap') xs.length (syF xs k)) ∧ Hid (At wr a5 xs.length (bsL xs)) ∧ Hid (Below w1.heap.size w1 wr)) (fun i _ => xs.length - (intOf i).toNat)
  case atStart => exact ⟨0, Nat.zero_le _, rfl, Lib.hid (by have k := OX.out; unfold RowO at k ⊢; rw [sy_zero]; rw [tab_self] at k; exact k), H5, B3⟩
  case round =>
    obtain ⟨k, hk, rfl, O, A, C⟩ := hrel
    by_cases hlt : k < xs.length
    · obtain ⟨cx, fx⟩ := O.out.cell hlt
      obtain ⟨b5, o5, rfl, hb5, hc5⟩ := A.out.2.resolve_left (by omega)
      have cy := hc5 k hlt
      have hne := NE.out _ rfl
      clear hc5
      go_wp2
      go_region
      all_goals
        go_wp2
        go_roundw
        case rel => exact ⟨k + 1, hlt, by go_num, Lib.hid (RowO.set (show RowO _ w1.heap.size (.slice (some ⟨g, 0, none⟩) xs.length cap') xs.length (syF xs k) from O.out) (fun t => by rw [sy_at]; exact sy_set xs k t)), Lib.hid (At.setO (show At _ (some ⟨b5, o5, none⟩) xs.length (bsL xs) from A.out) NE.out), Lib.hid (Below.setCell (below_drewN C.out _) (by exact hg) _)⟩
        case measure => simp [intOf]; omega
    · obtain rfl : k = xs.length := by omega
      have EF := Lib.hid (show Own wr w1.heap.size (.slice (some ⟨g, 0, none⟩) xs.length cap') (opL .or xs (bsL xs) xs.length) by rw [← sy_all]; exact O.out.own)
      have B5 := Lib.hid (B1.out.trans (C.out.mono B1.out.size))
      have Z5 := Lib.hid (Z1.out.keep C.out)
      have hz5 := C.out.size
      obtain ⟨a6, k6, e6, hat6, -, hn6, -⟩ := EF.out.at
      have EL := Lib.hid (opL_len .or xs (bsL xs) xs.length)
      rw [EL.out] at e6 hat6
      cases e6
      have H6 := Lib.hid hat6
      clear hat6 hn6
      go_wp2_with fail
      refine (l05Make_any (opL .or xs (bsL xs) xs.length) _ _ _ _ hl H6.out (fun h => by cases h)).mono ?_
      rintro e w9 ⟨v3, rfl, ho, hb⟩
      obtain ⟨a3, k3, rfl⟩ := ho.form
      obtain ⟨lt, z0, z1, z2, z3⟩ := Z5.out.keep hb
      have B6 := Lib.hid (B5.out.trans (hb.mono B5.out.size))
      have O3 := Lib.hid ho
      clear ho hb
      go_wp2
      exact bodyPost_ret (v := .tuple #[.agg #[.int .i64 (opL .or xs (bsL xs) xs.length).length, .slice a3 (opL .or xs (bsL xs) xs.length).length k3], .int .i64 0]) (by simp [results, Try.results31, go_sem, z0, z1]) rfl ⟨RF.good rfl rfl rfl (O3.out.out2 (by omega)) (by omega), (B6.out.setCell (by show _ ≤ _; simp) _).setCell (by show _ ≤ _; simp) _⟩
    

end Go.Proofs.Ytpedinmflhgcoaa
