/- Whether a frame has the condition of an axiom, by the model. Conditions: those in the theorems. -/
import Derived.Test.YtbaeacppojpplaaAt
import Derived.Test.YtbaeacppojpplaaJn03
namespace Go.Proofs.Ytbaeacppojpplaa
open Go.RowKit

set_option maxHeartbeats 2000000 in
set_option maxRecDepth 100000 in
theorem l09Holds_0 (xs : List Int) (a : Option Addr) (cap : Nat) (w : World) (h8 : xs.length ≤ 8) (hr : Rel xs.length (nth xs)) (h : At w a xs.length xs) :
    Calls Try.prog 35 #[.agg #[.int .i64 xs.length, .slice a xs.length cap], .string ⟨#[52]⟩] w fun e w' => e = .returned (.bool (axB 0 xs)) ∧ Below w.heap.size w w' := by
  obtain ⟨W, hW, HB, X⟩ : ∃ W : World, W = w.alloc (.cells #[.int .i64 xs.length, .slice a xs.length cap] 31) ∧ Hid (Below w.heap.size w W) ∧ Hid (Bx W w.heap.size xs.length a xs.length cap) := ⟨_, rfl, Lib.hid (alloc_keep _ _).1, Lib.hid (Bx.new _ _ _ _ _ _)⟩
  have HW := Lib.hid hW
  have H := Lib.hid (h.keep HB.out (Nat.le_refl _))
  have HR := Lib.hid hr
  clear h hW hr
  obtain ⟨lt, x0, x1⟩ := X.out
  go_enter Try.func35, Try.ntmps35
  go_wp2_with fail
  rw [← HW.out]
  refine (flag2_any xs a cap _ h8 HR.out H.out).mono ?_
  rintro e w1 ⟨rfl, hb⟩
  have B1 := Lib.hid hb
  clear hb
  go_wp2
  go_ret
  exact ⟨rfl, HB.out.trans (B1.out.mono HB.out.size)⟩

set_option maxHeartbeats 2000000 in
set_option maxRecDepth 100000 in
theorem l09Holds_1 (xs : List Int) (a : Option Addr) (cap : Nat) (w : World) (h8 : xs.length ≤ 8) (hr : Rel xs.length (nth xs)) (h : At w a xs.length xs) :
    Calls Try.prog 35 #[.agg #[.int .i64 xs.length, .slice a xs.length cap], .string ⟨#[53]⟩] w fun e w' => e = .returned (.bool (axB 1 xs)) ∧ Below w.heap.size w w' := by
  obtain ⟨W, hW, HB, X⟩ : ∃ W : World, W = w.alloc (.cells #[.int .i64 xs.length, .slice a xs.length cap] 31) ∧ Hid (Below w.heap.size w W) ∧ Hid (Bx W w.heap.size xs.length a xs.length cap) := ⟨_, rfl, Lib.hid (alloc_keep _ _).1, Lib.hid (Bx.new _ _ _ _ _ _)⟩
  have HW := Lib.hid hW
  have H := Lib.hid (h.keep HB.out (Nat.le_refl _))
  have HR := Lib.hid hr
  clear h hW hr
  obtain ⟨lt, x0, x1⟩ := X.out
  go_enter Try.func35, Try.ntmps35
  go_wp2_with fail
  rw [← HW.out]
  refine (flag4_any xs a cap _ h8 HR.out H.out).mono ?_
  rintro e w1 ⟨rfl, hb⟩
  have B1 := Lib.hid hb
  clear hb
  go_wp2
  go_ret
  exact ⟨rfl, HB.out.trans (B1.out.mono HB.out.size)⟩

set_option maxHeartbeats 2000000 in
set_option maxRecDepth 100000 in
theorem l09Holds_2 (xs : List Int) (a : Option Addr) (cap : Nat) (w : World) (h8 : xs.length ≤ 8) (hr : Rel xs.length (nth xs)) (h : At w a xs.length xs) :
    Calls Try.prog 35 #[.agg #[.int .i64 xs.length, .slice a xs.length cap], .string ⟨#[66]⟩] w fun e w' => e = .returned (.bool (axB 2 xs)) ∧ Below w.heap.size w w' := by
  obtain ⟨W, hW, HB, X⟩ : ∃ W : World, W = w.alloc (.cells #[.int .i64 xs.length, .slice a xs.length cap] 31) ∧ Hid (Below w.heap.size w W) ∧ Hid (Bx W w.heap.size xs.length a xs.length cap) := ⟨_, rfl, Lib.hid (alloc_keep _ _).1, Lib.hid (Bx.new _ _ _ _ _ _)⟩
  have HW := Lib.hid hW
  have H := Lib.hid (h.keep HB.out (Nat.le_refl _))
  have HR := Lib.hid hr
  clear h hW hr
  obtain ⟨lt, x0, x1⟩ := X.out
  go_enter Try.func35, Try.ntmps35
  go_wp2_with fail
  rw [← HW.out]
  refine (flag3_any xs a cap _ h8 HR.out H.out).mono ?_
  rintro e w1 ⟨rfl, hb⟩
  have B1 := Lib.hid hb
  clear hb
  go_wp2
  go_ret
  exact ⟨rfl, HB.out.trans (B1.out.mono HB.out.size)⟩

set_option maxHeartbeats 2000000 in
set_option maxRecDepth 100000 in
theorem l09Holds_3 (xs : List Int) (a : Option Addr) (cap : Nat) (w : World) (h8 : xs.length ≤ 8) (hr : Rel xs.length (nth xs)) (h : At w a xs.length xs) :
    Calls Try.prog 35 #[.agg #[.int .i64 xs.length, .slice a xs.length cap], .string ⟨#[67]⟩] w fun e w' => e = .returned (.bool (axB 3 xs)) ∧ Below w.heap.size w w' := by
  obtain ⟨W, hW, HB, X⟩ : ∃ W : World, W = w.alloc (.cells #[.int .i64 xs.length, .slice a xs.length cap] 31) ∧ Hid (Below w.heap.size w W) ∧ Hid (Bx W w.heap.size xs.length a xs.length cap) := ⟨_, rfl, Lib.hid (alloc_keep _ _).1, Lib.hid (Bx.new _ _ _ _ _ _)⟩
  have HW := Lib.hid hW
  have H := Lib.hid (h.keep HB.out (Nat.le_refl _))
  have HR := Lib.hid hr
  clear h hW hr
  obtain ⟨lt, x0, x1⟩ := X.out
  go_enter Try.func35, Try.ntmps35
  go_wp2_with fail
  rw [← HW.out]
  refine (flag9_any xs a cap _ h8 HR.out H.out).mono ?_
  rintro e w1 ⟨rfl, hb⟩
  have B1 := Lib.hid hb
  clear hb
  go_wp2
  go_ret
  exact ⟨rfl, HB.out.trans (B1.out.mono HB.out.size)⟩

set_option maxHeartbeats 2000000 in
set_option maxRecDepth 100000 in
theorem l09Holds_4 (xs : List Int) (a : Option Addr) (cap : Nat) (w : World) (h8 : xs.length ≤ 8) (hr : Rel xs.length (nth xs)) (h : At w a xs.length xs) :
    Calls Try.prog 35 #[.agg #[.int .i64 xs.length, .slice a xs.length cap], .string ⟨#[68]⟩] w fun e w' => e = .returned (.bool (axB 4 xs)) ∧ Below w.heap.size w w' := by
  obtain ⟨W, hW, HB, X⟩ : ∃ W : World, W = w.alloc (.cells #[.int .i64 xs.length, .slice a xs.length cap] 31) ∧ Hid (Below w.heap.size w W) ∧ Hid (Bx W w.heap.size xs.length a xs.length cap) := ⟨_, rfl, Lib.hid (alloc_keep _ _).1, Lib.hid (Bx.new _ _ _ _ _ _)⟩
  have HW := Lib.hid hW
  have H := Lib.hid (h.keep HB.out (Nat.le_refl _))
  have HR := Lib.hid hr
  clear h hW hr
  obtain ⟨lt, x0, x1⟩ := X.out
  go_enter Try.func35, Try.ntmps35
  go_wp2_with fail
  rw [← HW.out]
  refine (flag1_any xs a cap _ h8 HR.out H.out).mono ?_
  rintro e w1 ⟨rfl, hb⟩
  have B1 := Lib.hid hb
  clear hb
  go_wp2
  go_ret
  exact ⟨rfl, HB.out.trans (B1.out.mono HB.out.size)⟩

set_option maxHeartbeats 2000000 in
set_option maxRecDepth 100000 in
theorem l09Holds_5 (xs : List Int) (a : Option Addr) (cap : Nat) (w : World) (h8 : xs.length ≤ 8) (hr : Rel xs.length (nth xs)) (h : At w a xs.length xs) :
    Calls Try.prog 35 #[.agg #[.int .i64 xs.length, .slice a xs.length cap], .string ⟨#[70]⟩] w fun e w' => e = .returned (.bool (axB 5 xs)) ∧ Below w.heap.size w w' := by
  obtain ⟨W, hW, HB, X⟩ : ∃ W : World, W = w.alloc (.cells #[.int .i64 xs.length, .slice a xs.length cap] 31) ∧ Hid (Below w.heap.size w W) ∧ Hid (Bx W w.heap.size xs.length a xs.length cap) := ⟨_, rfl, Lib.hid (alloc_keep _ _).1, Lib.hid (Bx.new _ _ _ _ _ _)⟩
  have HW := Lib.hid hW
  have H := Lib.hid (h.keep HB.out (Nat.le_refl _))
  have HR := Lib.hid hr
  clear h hW hr
  obtain ⟨lt, x0, x1⟩ := X.out
  go_enter Try.func35, Try.ntmps35
  go_wp2_with fail
  rw [← HW.out]
  refine (flag10_any xs a cap _ h8 HR.out H.out).mono ?_
  rintro e w1 ⟨rfl, hb⟩
  have B1 := Lib.hid hb
  clear hb
  go_wp2
  go_ret
  exact ⟨rfl, HB.out.trans (B1.out.mono HB.out.size)⟩

set_option maxHeartbeats 2000000 in
set_option maxRecDepth 100000 in
theorem l09Holds_6 (xs : List Int) (a : Option Addr) (cap : Nat) (w : World) (h8 : xs.length ≤ 8) (hr : Rel xs.length (nth xs)) (h : At w a xs.length xs) :
    Calls Try.prog 35 #[.agg #[.int .i64 xs.length, .slice a xs.length cap], .string ⟨#[71]⟩] w fun e w' => e = .returned (.bool (axB 6 xs)) ∧ Below w.heap.size w w' := by
  obtain ⟨W, hW, HB, X⟩ : ∃ W : World, W = w.alloc (.cells #[.int .i64 xs.length, .slice a xs.length cap] 31) ∧ Hid (Below w.heap.size w W) ∧ Hid (Bx W w.heap.size xs.length a xs.length cap) := ⟨_, rfl, Lib.hid (alloc_keep _ _).1, Lib.hid (Bx.new _ _ _ _ _ _)⟩
  have HW := Lib.hid hW
  have H := Lib.hid (h.keep HB.out (Nat.le_refl _))
  have HR := Lib.hid hr
  clear h hW hr
  obtain ⟨lt, x0, x1⟩ := X.out
  go_enter Try.func35, Try.ntmps35
  go_wp2_with fail
  rw [← HW.out]
  refine (flag5_any xs a cap _ h8 HR.out H.out).mono ?_
  rintro e w1 ⟨rfl, hb⟩
  have B1 := Lib.hid hb
  clear hb
  go_wp2
  go_ret
  exact ⟨rfl, HB.out.trans (B1.out.mono HB.out.size)⟩

set_option maxHeartbeats 2000000 in
set_option maxRecDepth 100000 in
theorem l09Holds_7 (xs : List Int) (a : Option Addr) (cap : Nat) (w : World) (h8 : xs.length ≤ 8) (hr : Rel xs.length (nth xs)) (h : At w a xs.length xs) :
    Calls Try.prog 35 #[.agg #[.int .i64 xs.length, .slice a xs.length cap], .string ⟨#[72]⟩] w fun e w' => e = .returned (.bool (axB 7 xs)) ∧ Below w.heap.size w w' := by
  obtain ⟨W, hW, HB, X⟩ : ∃ W : World, W = w.alloc (.cells #[.int .i64 xs.length, .slice a xs.length cap] 31) ∧ Hid (Below w.heap.size w W) ∧ Hid (Bx W w.heap.size xs.length a xs.length cap) := ⟨_, rfl, Lib.hid (alloc_keep _ _).1, Lib.hid (Bx.new _ _ _ _ _ _)⟩
  have HW := Lib.hid hW
  have H := Lib.hid (h.keep HB.out (Nat.le_refl _))
  have HR := Lib.hid hr
  clear h hW hr
  obtain ⟨lt, x0, x1⟩ := X.out
  go_enter Try.func35, Try.ntmps35
  go_wp2_with fail
  rw [← HW.out]
  refine (flag6_any xs a cap _ h8 HR.out H.out).mono ?_
  rintro e w1 ⟨rfl, hb⟩
  have B1 := Lib.hid hb
  clear hb
  go_wp2
  go_ret
  exact ⟨rfl, HB.out.trans (B1.out.mono HB.out.size)⟩

set_option maxHeartbeats 2000000 in
set_option maxRecDepth 100000 in
theorem l09Holds_8 (xs : List Int) (a : Option Addr) (cap : Nat) (w : World) (h8 : xs.length ≤ 8) (hr : Rel xs.length (nth xs)) (h : At w a xs.length xs) :
    Calls Try.prog 35 #[.agg #[.int .i64 xs.length, .slice a xs.length cap], .string ⟨#[76]⟩] w fun e w' => e = .returned (.bool (axB 8 xs)) ∧ Below w.heap.size w w' := by
  obtain ⟨W, hW, HB, X⟩ : ∃ W : World, W = w.alloc (.cells #[.int .i64 xs.length, .slice a xs.length cap] 31) ∧ Hid (Below w.heap.size w W) ∧ Hid (Bx W w.heap.size xs.length a xs.length cap) := ⟨_, rfl, Lib.hid (alloc_keep _ _).1, Lib.hid (Bx.new _ _ _ _ _ _)⟩
  have HW := Lib.hid hW
  have H := Lib.hid (h.keep HB.out (Nat.le_refl _))
  have HR := Lib.hid hr
  clear h hW hr
  obtain ⟨lt, x0, x1⟩ := X.out
  go_enter Try.func35, Try.ntmps35
  go_wp2_with fail
  rw [← HW.out]
  refine (flag2_any xs a cap _ h8 HR.out H.out).mono ?_
  rintro e w1 ⟨rfl, hb⟩
  have B1 := Lib.hid hb
  clear hb
  obtain ⟨r1, hr1⟩ : ∃ r, r = flB 2 xs := ⟨_, rfl⟩
  have R1 := Lib.hid hr1
  rw [← hr1]
  clear hr1
  cases r1
  · have Q := Lib.hid (show false = axB 8 xs by show _ = (flB 2 xs && flB 7 xs); rw [← R1.out]; rfl)
    go_wp2
    go_ret
    exact ⟨ret_bool Q.out, HB.out.trans (B1.out.mono HB.out.size)⟩
  · obtain ⟨lt1, y1, z1⟩ := X.out.keep B1.out
    go_wp2_with fail
    refine (flag7_any xs a cap _ h8 HR.out (H.out.keep B1.out (Nat.le_refl _))).mono ?_
    rintro e w2 ⟨rfl, hb⟩
    have B2 := Lib.hid (B1.out.trans (hb.mono B1.out.size))
    clear hb
    obtain ⟨r2, hr2⟩ : ∃ r, r = flB 7 xs := ⟨_, rfl⟩
    have R2 := Lib.hid hr2
    rw [← hr2]
    clear hr2
    cases r2
    · have Q := Lib.hid (show false = axB 8 xs by show _ = (flB 2 xs && flB 7 xs); rw [← R1.out, ← R2.out]; rfl)
      go_wp2
      go_ret
      exact ⟨ret_bool Q.out, HB.out.trans (B2.out.mono HB.out.size)⟩
    · have Q := Lib.hid (show true = axB 8 xs by show _ = (flB 2 xs && flB 7 xs); rw [← R1.out, ← R2.out]; rfl)
      go_wp2
      go_ret
      exact ⟨ret_bool Q.out, HB.out.trans (B2.out.mono HB.out.size)⟩

set_option maxHeartbeats 2000000 in
set_option maxRecDepth 100000 in
theorem l09Holds_9 (xs : List Int) (a : Option Addr) (cap : Nat) (w : World) (h8 : xs.length ≤ 8) (hr : Rel xs.length (nth xs)) (h : At w a xs.length xs) :
    Calls Try.prog 35 #[.agg #[.int .i64 xs.length, .slice a xs.length cap], .string ⟨#[84]⟩] w fun e w' => e = .returned (.bool (axB 9 xs)) ∧ Below w.heap.size w w' := by
  obtain ⟨W, hW, HB, X⟩ : ∃ W : World, W = w.alloc (.cells #[.int .i64 xs.length, .slice a xs.length cap] 31) ∧ Hid (Below w.heap.size w W) ∧ Hid (Bx W w.heap.size xs.length a xs.length cap) := ⟨_, rfl, Lib.hid (alloc_keep _ _).1, Lib.hid (Bx.new _ _ _ _ _ _)⟩
  have HW := Lib.hid hW
  have H := Lib.hid (h.keep HB.out (Nat.le_refl _))
  have HR := Lib.hid hr
  clear h hW hr
  obtain ⟨lt, x0, x1⟩ := X.out
  go_enter Try.func35, Try.ntmps35
  go_wp2_with fail
  rw [← HW.out]
  refine (flag0_any xs a cap _ h8 HR.out H.out).mono ?_
  rintro e w1 ⟨rfl, hb⟩
  have B1 := Lib.hid hb
  clear hb
  go_wp2
  go_ret
  exact ⟨rfl, HB.out.trans (B1.out.mono HB.out.size)⟩

set_option maxHeartbeats 2000000 in
set_option maxRecDepth 100000 in
theorem l09Holds_12 (xs : List Int) (a : Option Addr) (cap : Nat) (w : World) (h8 : xs.length ≤ 8) (hr : Rel xs.length (nth xs)) (h : At w a xs.length xs) :
    Calls Try.prog 35 #[.agg #[.int .i64 xs.length, .slice a xs.length cap], .string ⟨#[90]⟩] w fun e w' => e = .returned (.bool (axB 12 xs)) ∧ Below w.heap.size w w' := by
  obtain ⟨W, hW, HB, X⟩ : ∃ W : World, W = w.alloc (.cells #[.int .i64 xs.length, .slice a xs.length cap] 31) ∧ Hid (Below w.heap.size w W) ∧ Hid (Bx W w.heap.size xs.length a xs.length cap) := ⟨_, rfl, Lib.hid (alloc_keep _ _).1, Lib.hid (Bx.new _ _ _ _ _ _)⟩
  have HW := Lib.hid hW
  have H := Lib.hid (h.keep HB.out (Nat.le_refl _))
  have HR := Lib.hid hr
  clear h hW hr
  obtain ⟨lt, x0, x1⟩ := X.out
  go_enter Try.func35, Try.ntmps35
  go_wp2_with fail
  rw [← HW.out]
  refine (flag0_any xs a cap _ h8 HR.out H.out).mono ?_
  rintro e w1 ⟨rfl, hb⟩
  have B1 := Lib.hid hb
  clear hb
  obtain ⟨r1, hr1⟩ : ∃ r, r = flB 0 xs := ⟨_, rfl⟩
  have R1 := Lib.hid hr1
  rw [← hr1]
  clear hr1
  cases r1
  · have Q := Lib.hid (show false = axB 12 xs by show _ = (flB 0 xs && flB 2 xs && flB 8 xs); rw [← R1.out]; rfl)
    go_wp2
    go_ret
    exact ⟨ret_bool Q.out, HB.out.trans (B1.out.mono HB.out.size)⟩
  · obtain ⟨lt1, y1, z1⟩ := X.out.keep B1.out
    go_wp2_with fail
    refine (flag2_any xs a cap _ h8 HR.out (H.out.keep B1.out (Nat.le_refl _))).mono ?_
    rintro e w2 ⟨rfl, hb⟩
    have B2 := Lib.hid (B1.out.trans (hb.mono B1.out.size))
    clear hb
    obtain ⟨r2, hr2⟩ : ∃ r, r = flB 2 xs := ⟨_, rfl⟩
    have R2 := Lib.hid hr2
    rw [← hr2]
    clear hr2
    cases r2
    · have Q := Lib.hid (show false = axB 12 xs by show _ = (flB 0 xs && flB 2 xs && flB 8 xs); rw [← R1.out, ← R2.out]; rfl)
      go_wp2
      go_ret
      exact ⟨ret_bool Q.out, HB.out.trans (B2.out.mono HB.out.size)⟩
    · obtain ⟨lt2, y2, z2⟩ := X.out.keep B2.out
      go_wp2_with fail
      refine (flag8_any xs a cap _ h8 HR.out (H.out.keep B2.out (Nat.le_refl _))).mono ?_
      rintro e w3 ⟨rfl, hb⟩
      have B3 := Lib.hid (B2.out.trans (hb.mono B2.out.size))
      clear hb
      obtain ⟨r3, hr3⟩ : ∃ r, r = flB 8 xs := ⟨_, rfl⟩
      have R3 := Lib.hid hr3
      rw [← hr3]
      clear hr3
      cases r3
      · have Q := Lib.hid (show false = axB 12 xs by show _ = (flB 0 xs && flB 2 xs && flB 8 xs); rw [← R1.out, ← R2.out, ← R3.out]; rfl)
        go_wp2
        go_ret
        exact ⟨ret_bool Q.out, HB.out.trans (B3.out.mono HB.out.size)⟩
      · have Q := Lib.hid (show true = axB 12 xs by show _ = (flB 0 xs && flB 2 xs && flB 8 xs); rw [← R1.out, ← R2.out, ← R3.out]; rfl)
        go_wp2
        go_ret
        exact ⟨ret_bool Q.out, HB.out.trans (B3.out.mono HB.out.size)⟩

end Go.Proofs.Ytbaeacppojpplaa
