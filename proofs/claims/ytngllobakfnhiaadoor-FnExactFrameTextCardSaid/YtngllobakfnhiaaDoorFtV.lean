/- FrameText: entries of both sides. Conditions: those in the theorems. -/
import Derived.Test.YtngllobakfnhiaaDoorFtS
namespace Go.Proofs.YtngllobakfnhiaaDoor
open Go.RowKit

set_option maxHeartbeats 1000000 in
theorem specFrameText_v (n : Int) (xs : List Int) (v : Value) (lo hi : Nat) (w : World) (hl : xs.length ≤ 1048576) (h : InF w lo hi v n xs) :
    Calls Tryd.prog 5 #[v] w fun e w' => e = .returned (.tuple #[.string (ftR n xs), .int .i64 (ftC n xs)]) ∧ Below w.heap.size w w' := by
  obtain ⟨a, cap, rfl, hat, -⟩ := h.at
  clear h
  have HB := Lib.hid (boxF (w := w) n a xs.length cap)
  have HH := Lib.hid hat
  have H := Lib.hid (hat.keep HB.out (Nat.le_refl _))
  have CI := Lib.hid (l05Is_any n xs a _ cap (w.alloc (.cells #[.int .i64 n, .slice a xs.length cap] 28)) hl H.out)
  cases hb : frB n xs
  · have E1 := Lib.hid (show ftR n xs = ⟨#[]⟩ by rw [ftR, hb]; rfl)
    have E2 := Lib.hid (show ftC n xs = 1 by rw [ftC, hb]; rfl)
    rw [hb] at CI
    clear hat hb
    go_enter Tryd.func5, Tryd.ntmps5
    go_wp2_with fail
    refine CI.out.mono ?_
    rintro e w1 ⟨rfl, hb1⟩
    have B1 := Lib.hid (HB.out.trans (hb1.mono HB.out.size))
    clear hb1
    go_wp2
    go_ret2
    exact ⟨(by rw [E1.out, E2.out] <;> rfl), B1.out⟩
  · obtain ⟨S, hS⟩ : ∃ S, S = strF (ftT n xs) := ⟨_, rfl⟩
    have CL := Lib.hid (fun W (hW : Below w.heap.size w W) => l05Text_any n xs a cap W hb (hat.keep hW (Nat.le_refl _)))
    rw [← hS] at CL
    have E1 := Lib.hid (show ftR n xs = S by rw [ftR, hb, if_pos rfl, hS])
    have E2 := Lib.hid (show ftC n xs = 0 by rw [ftC, hb]; rfl)
    rw [hb] at CI
    have X2 := Lib.hid (fun W' (hW' : Below (w.alloc (.cells #[.int .i64 n, .slice a xs.length cap] 28)).heap.size (w.alloc (.cells #[.int .i64 n, .slice a xs.length cap] 28)) W') => show _ ∧ _ ∧ _ from (Bx.new w n a xs.length cap 28).keep hW')
    clear hat hb hS
    go_enter Tryd.func5, Tryd.ntmps5
    go_wp2_with fail
    refine CI.out.mono ?_
    rintro e w1 ⟨rfl, hb1⟩
    obtain ⟨lt0, x0, x1⟩ := X2.out _ hb1
    have B1 := Lib.hid (HB.out.trans (hb1.mono HB.out.size))
    clear hb1
    go_wp2_with fail
    refine (CL.out _ B1.out).mono ?_
    rintro e w2 ⟨rfl, hb2⟩
    have B2 := Lib.hid (B1.out.trans (hb2.mono B1.out.size))
    clear hb2
    go_wp2
    go_ret2
    exact ⟨(by rw [E1.out, E2.out] <;> rfl), B2.out⟩

set_option maxHeartbeats 1000000 in
theorem implFrameText_v (n : Int) (xs : List Int) (v : Value) (lo hi : Nat) (w : World) (hl : xs.length ≤ 1048576) (h : InF w lo hi v n xs) :
    Calls Tryd.prog 7 #[v] w fun e w' => e = .returned (.tuple #[.string (ftR n xs), .int .i64 (ftC n xs)]) ∧ Below w.heap.size w w' := by
  obtain ⟨a, cap, rfl, hat, -⟩ := h.at
  clear h
  have HB := Lib.hid (boxF (w := w) n a xs.length cap)
  have HH := Lib.hid hat
  have H := Lib.hid (hat.keep HB.out (Nat.le_refl _))
  have CI := Lib.hid (implIsFrame_any n xs a _ cap (w.alloc (.cells #[.int .i64 n, .slice a xs.length cap] 28)) hl H.out)
  cases hb : frB n xs
  · have E1 := Lib.hid (show ftR n xs = ⟨#[]⟩ by rw [ftR, hb]; rfl)
    have E2 := Lib.hid (show ftC n xs = 1 by rw [ftC, hb]; rfl)
    rw [hb] at CI
    clear hat hb
    go_enter Tryd.func7, Tryd.ntmps7
    go_wp2_with fail
    refine CI.out.mono ?_
    rintro e w1 ⟨rfl, hb1⟩
    have B1 := Lib.hid (HB.out.trans (hb1.mono HB.out.size))
    clear hb1
    go_wp2
    go_ret2
    exact ⟨(by rw [E1.out, E2.out] <;> rfl), B1.out⟩
  · obtain ⟨S, hS⟩ : ∃ S, S = strF (ftT n xs) := ⟨_, rfl⟩
    have CL := Lib.hid (fun W (hW : Below w.heap.size w W) => frText_any n xs a cap W hb (hat.keep hW (Nat.le_refl _)))
    rw [← hS] at CL
    have E1 := Lib.hid (show ftR n xs = S by rw [ftR, hb, if_pos rfl, hS])
    have E2 := Lib.hid (show ftC n xs = 0 by rw [ftC, hb]; rfl)
    rw [hb] at CI
    have X2 := Lib.hid (fun W' (hW' : Below (w.alloc (.cells #[.int .i64 n, .slice a xs.length cap] 28)).heap.size (w.alloc (.cells #[.int .i64 n, .slice a xs.length cap] 28)) W') => show _ ∧ _ ∧ _ from (Bx.new w n a xs.length cap 28).keep hW')
    clear hat hb hS
    go_enter Tryd.func7, Tryd.ntmps7
    go_wp2_with fail
    refine CI.out.mono ?_
    rintro e w1 ⟨rfl, hb1⟩
    obtain ⟨lt0, x0, x1⟩ := X2.out _ hb1
    have B1 := Lib.hid (HB.out.trans (hb1.mono HB.out.size))
    clear hb1
    go_wp2_with fail
    refine (CL.out _ B1.out).mono ?_
    rintro e w2 ⟨rfl, hb2⟩
    have B2 := Lib.hid (B1.out.trans (hb2.mono B1.out.size))
    clear hb2
    go_wp2
    go_ret2
    exact ⟨(by rw [E1.out, E2.out] <;> rfl), B2.out⟩

end Go.Proofs.YtngllobakfnhiaaDoor
