/- The draw of DrawCloseFrame. Conditions: those in the theorems. -/
import Derived.Test.YtpedinmflhgcoaaDcf
namespace Go.Proofs.Ytpedinmflhgcoaa
open Go.RowKit

theorem grown_to_below {w w1 w' : World} {b : Nat} (hb : Below w.heap.size w w1) (hg : w1.grownBy w' (some b)) (h : w.heap.size ≤ b) : Below w.heap.size w w' := hb.grown hg hb.size (fun k e => by cases e; exact h)

set_option maxHeartbeats 4000000 in
set_option maxRecDepth 100000 in
theorem DrawCloseFrame_any (a : Option Addr) (len cap : Nat) (w : World) (hc : Code w.heap.size w a len) :
    Calls Try.prog 34 #[.slice a len cap] w fun e w' => (∃ v n xs fl, e = .returned (.tuple #[v, .int .i64 fl]) ∧ OwnF w' w.heap.size v n xs ∧ xs.length ≤ 9 ∧ -1 ≤ fl ∧ fl ≤ 11) ∧ Below w.heap.size w w' := by
  obtain ⟨W, hW⟩ : ∃ W, W = w.alloc (.cells #[.int .i64 0, .slice none 0 0] 40) := ⟨_, rfl⟩
  have bW : Below w.heap.size w W := by rw [hW]; exact (alloc_keep _ _).1
  have hWs : W.heap.size = w.heap.size + 1 := by rw [hW]; simp
  have HC := Lib.hid ((hc.below bW).mono (show w.heap.size ≤ w.heap.size + 1 by omega))
  have FR := l01From_any a len cap W (by rw [hWs]; exact HC.out)
  rw [hWs] at FR
  have FR1 := Lib.hid FR
  have Z := Lib.hid (show Bz W w.heap.size by rw [hW]; exact Bz.new w)
  have BW := Lib.hid bW
  have HW := Lib.hid hW
  have hw1 : w.heap.size + 1 ≤ W.heap.size := by omega
  clear hc hW bW hWs FR
  go_enter Try.func34, Try.ntmps34
  go_wp2_with fail
  rw [← HW.out]
  refine FR1.out.mono ?_
  rintro e w1 ⟨rfl, hs1, hb1⟩
  have S1 := Lib.hid hs1
  have C1 := Lib.hid (HC.out.below hb1)
  have Z1 := Lib.hid (Z.out.below hb1 (by omega))
  have B1 := Lib.hid (BW.out.trans (hb1.mono (by omega)))
  have hz1 : w.heap.size + 1 ≤ w1.heap.size := by have := hb1.size; omega
  have hsl := hs1.lt
  have DR := l05Draw_any (w.heap.size + 1) a len cap 8 w1 (w.heap.size + 1) (Nat.le_refl _) hz1 (by omega) S1.out C1.out
  rw [show ((8 : Nat) : Int) = 8 from rfl] at DR
  have DW := Lib.hid DR
  clear hs1 hb1 DR
  go_wp2_with fail
  refine DW.out.mono ?_
  rintro e w2 ⟨⟨v2, n, xs, rfl, ho, hx9, -⟩, hs2, hg2⟩
  obtain ⟨a2, c2, rfl⟩ := ho.form
  obtain ⟨V, hV, bV, fV, hVs⟩ : ∃ V, V = w2.alloc (.cells #[.int .i64 n, .slice a2 xs.length c2] 40) ∧ Below w2.heap.size w2 V ∧ Bf V w2.heap.size n a2 xs.length c2 ∧ V.heap.size = w2.heap.size + 1 := ⟨_, rfl, (alloc_keep _ _).1, Bf.new _ _ _ _ _, by simp⟩
  have hz2 := hg2.size
  have SV := Lib.hid (hs2.other (grown_low bV none) (by intro e; cases e))
  have CV := Lib.hid ((C1.out.grown hg2 (Nat.le_refl _) hz1).below (bV.mono (Nat.le_trans hz1 hz2)))
  have OV := Lib.hid (ho.2.inn.below bV (Nat.le_refl _))
  have ZV := Lib.hid ((Z1.out.grown hg2 (by omega)).below bV (by omega))
  have B2 := Lib.hid (grown_to_below B1.out hg2 (by omega))
  have BV := Lib.hid (B2.out.trans (bV.mono (by omega)))
  have FV := Lib.hid fV
  have HV := Lib.hid hV
  clear ho hs2 hg2 bV fV hV
  go_wp2_with fail
  rw [← HV.out]
  refine (l01Next_any (w.heap.size + 1) a len cap 20 _ (w.heap.size + 1) (Nat.le_refl _) SV.out CV.out).mono ?_
  rintro e w3 ⟨x, rfl, hx, hs3, hg3⟩
  have S3 := Lib.hid hs3
  have C3 := Lib.hid (CV.out.grown hg3 (Nat.le_refl _) (by omega))
  have O3 := Lib.hid (OV.out.oth (b := some (w.heap.size + 1)) (lo' := (w.heap.size + 1)) (hi' := (w.heap.size + 1) + 1) (fun k e => by cases e; omega) hg3 (.inr (by omega)))
  have Z3 := Lib.hid (ZV.out.grown hg3 (by omega))
  have F3 := Lib.hid (FV.out.grown hg3 (by omega))
  have B3 := Lib.hid (grown_to_below BV.out hg3 (by omega))
  have hz3 : w2.heap.size + 1 ≤ w3.heap.size := by have := hg3.size; omega
  clear hx hs3 hg3
  obtain ⟨ltf, x0, x1, f0, f1⟩ := F3.out.all
  by_cases h0 : x = 0
  · subst h0
    go_wp2
    go_region_held3 (fun w' => w'.cell? ⟨w2.heap.size, 0, none⟩ = some (.int .i64 n) ∧ w'.cell? ⟨w2.heap.size, 1, none⟩ = some (.slice a2 xs.length c2)) (first | exact ⟨one_set (one_set y0 (by omega)) (by omega), one_set (one_set y1 (by omega)) (by omega)⟩ | exact ⟨y0, y1⟩ | exact ⟨x0, x1⟩ | go_keep)
      (first | (go_at_call 84; have hr := World.ownsRow_lit (e := 2) (size := 1) (base := (w.heap.size + 1)) w3.drew #[.int .i64 (-1), .int .i64 1, .int .i64 5, .int .i64 6, .int .i64 7, .int .i64 11] 6 (show (w.heap.size + 1) ≤ w3.heap.size by omega) (by unfold maxLen; omega) rfl; refine (l01Pick_any (w.heap.size + 1) a len cap w3.heap.size 6 6 [-1, 1, 5, 6, 7, 11] _ (w.heap.size + 1) (Nat.le_refl _) ((show Src w3.drew (w.heap.size + 1) a len cap from S3.out).alloc _) ((show Code (w.heap.size + 1) w3.drew a len from C3.out).alloc _ (show (w.heap.size + 1) ≤ w3.heap.size by omega)) rfl (by decide) (by decide) (by omega) hr).mono ?_; rintro e w4 ⟨⟨y, hy, rfl⟩, hs4, hg4⟩; have hyb : -1 ≤ y ∧ y ≤ 11 := (by simp at hy; omega); have bA : Below w3.heap.size w3 (w3.drew.alloc (.cells #[.int .i64 (-1), .int .i64 1, .int .i64 5, .int .i64 6, .int .i64 7, .int .i64 11] 2)) := below_of_drew ((Below.refl w3.heap.size w3.drew).alloc (show w3.heap.size ≤ w3.heap.size from Nat.le_refl _) _); have O4 := Lib.hid ((O3.out.below bA O3.out.hi).oth (b := some (w.heap.size + 1)) (lo' := (w.heap.size + 1)) (hi' := (w.heap.size + 1) + 1) (fun k e => by cases e; omega) hg4 (.inr (by omega))); have Z4 := Lib.hid ((Z3.out.keep bA).grown hg4 (by omega)); have F4 := Lib.hid ((F3.out.keep bA).grown hg4 (by omega)); have B4 := Lib.hid (grown_to_below (B3.out.trans (bA.mono (by omega))) hg4 (by omega)); clear hr hs4 hg4 bA hy; obtain ⟨lt4, y0, y1, y2, y3⟩ := F4.out.all; obtain ⟨lt2, z0, z1, z2, z3⟩ := Z4.out))
    all_goals
      go_wp2
      exact bodyPost_ret (v := .tuple #[.agg #[.int .i64 n, .slice a2 xs.length c2], .int .i64 y]) (by simp [results, Try.results34, go_sem, z0, z1]) rfl
        ⟨⟨_, n, xs, y, rfl, ⟨rfl, ((O4.out.setOut (.inl (by omega))).setOut (.inl (by omega))).1.mono (by omega)⟩, hx9, hyb⟩, (B4.out.setCell (by show _ ≤ _; simp) _).setCell (by show _ ≤ _; simp) _⟩
  · have e0 : ((x : Int) == 0) = false := by simp; omega
    go_wp2
    go_region_held3 (fun w' => w'.cell? ⟨w2.heap.size, 0, none⟩ = some (.int .i64 n) ∧ w'.cell? ⟨w2.heap.size, 1, none⟩ = some (.slice a2 xs.length c2)) (first | exact ⟨one_set (one_set y0 (by omega)) (by omega), one_set (one_set y1 (by omega)) (by omega)⟩ | exact ⟨y0, y1⟩ | exact ⟨x0, x1⟩ | go_keep)
      (first | (go_at_call 84; have hr := World.ownsRow_lit (e := 2) (size := 1) (base := (w.heap.size + 1)) w3.drew #[.int .i64 0, .int .i64 2, .int .i64 3, .int .i64 4] 4 (show (w.heap.size + 1) ≤ w3.heap.size by omega) (by unfold maxLen; omega) rfl; refine (l01Pick_any (w.heap.size + 1) a len cap w3.heap.size 4 4 [0, 2, 3, 4] _ (w.heap.size + 1) (Nat.le_refl _) ((show Src w3.drew (w.heap.size + 1) a len cap from S3.out).alloc _) ((show Code (w.heap.size + 1) w3.drew a len from C3.out).alloc _ (show (w.heap.size + 1) ≤ w3.heap.size by omega)) rfl (by decide) (by decide) (by omega) hr).mono ?_; rintro e w4 ⟨⟨y, hy, rfl⟩, hs4, hg4⟩; have hyb : -1 ≤ y ∧ y ≤ 11 := (by simp at hy; omega); have bA : Below w3.heap.size w3 (w3.drew.alloc (.cells #[.int .i64 0, .int .i64 2, .int .i64 3, .int .i64 4] 2)) := below_of_drew ((Below.refl w3.heap.size w3.drew).alloc (show w3.heap.size ≤ w3.heap.size from Nat.le_refl _) _); have O4 := Lib.hid ((O3.out.below bA O3.out.hi).oth (b := some (w.heap.size + 1)) (lo' := (w.heap.size + 1)) (hi' := (w.heap.size + 1) + 1) (fun k e => by cases e; omega) hg4 (.inr (by omega))); have Z4 := Lib.hid ((Z3.out.keep bA).grown hg4 (by omega)); have F4 := Lib.hid ((F3.out.keep bA).grown hg4 (by omega)); have B4 := Lib.hid (grown_to_below (B3.out.trans (bA.mono (by omega))) hg4 (by omega)); clear hr hs4 hg4 bA hy; obtain ⟨lt4, y0, y1, y2, y3⟩ := F4.out.all; obtain ⟨lt2, z0, z1, z2, z3⟩ := Z4.out))
    all_goals
      go_wp2
      exact bodyPost_ret (v := .tuple #[.agg #[.int .i64 n, .slice a2 xs.length c2], .int .i64 y]) (by simp [results, Try.results34, go_sem, z0, z1]) rfl
        ⟨⟨_, n, xs, y, rfl, ⟨rfl, ((O4.out.setOut (.inl (by omega))).setOut (.inl (by omega))).1.mono (by omega)⟩, hx9, hyb⟩, (B4.out.setCell (by show _ ≤ _; simp) _).setCell (by show _ ≤ _; simp) _⟩

end Go.Proofs.Ytpedinmflhgcoaa
