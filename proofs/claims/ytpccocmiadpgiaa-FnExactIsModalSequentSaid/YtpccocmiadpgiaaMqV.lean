/- IsModalSequent of both sides. Conditions: those in the theorems. -/
import Derived.Test.YtpccocmiadpgiaaSdT
namespace Go.Proofs.Ytpccocmiadpgiaa
open Go.RowKit

/-- A list of texts is small. -/
def SmL (ss : List (List UInt8)) : Prop := ss.length ≤ 1048576 ∧ ∀ j, j < ss.length → (nthS ss j).length ≤ 1048576
theorem SmS.smL {left : Int} {ss : List (List UInt8)} (h : SmS left ss) (hl : left ≤ 1048576) : SmL ss := ⟨by have := h.1; omega, fun j hj => by have := h.2 j hj; omega⟩
/-- Two lists of texts are the sides of a modal sequent. -/
noncomputable def mqB (ls rs : List (List UInt8)) : Bool := sdB ls && sdB rs

set_option maxHeartbeats 2000000 in
theorem l11Is_any (ls rs : List (List UInt8)) (a : Option Addr) (cap : Nat) (b : Option Addr) (d : Nat) (w : World) (hl : SmL ls) (hr : SmL rs) (h : AtS w a ls.length ls) (h' : AtS w b rs.length rs) :
    Calls Try.prog 22 #[.agg #[.slice a ls.length cap, .slice b rs.length d]] w fun e w' => e = .returned (.bool (mqB ls rs)) ∧ Below w.heap.size w w' := by
  obtain ⟨W, hW⟩ : ∃ W, W = w.alloc (.cells #[.slice a ls.length cap, .slice b rs.length d] 28) := ⟨_, rfl⟩
  have HB := Lib.hid (show Below w.heap.size w W by rw [hW]; exact (Below.refl _ _).alloc (Nat.le_refl _) _)
  have X := Lib.hid (show Bq W w.heap.size a ls.length cap b rs.length d by rw [hW]; exact Bq.new _ _ _ _ _ _ _ _)
  have CL := Lib.hid (l11Side_any ls a cap W hl.1 hl.2 (h.keep HB.out (Nat.le_refl _)))
  have CR := Lib.hid (fun W' (hW' : Below w.heap.size w W') => l11Side_any rs b d W' hr.1 hr.2 (h'.keep hW' (Nat.le_refl _)))
  have HW := Lib.hid hW
  have R := Lib.hid (show mqB ls rs = (sdB ls && sdB rs) from rfl)
  clear h h' hW
  obtain ⟨l, hl2⟩ : ∃ l, l = sdB ls := ⟨_, rfl⟩
  obtain ⟨r, hr2⟩ : ∃ r, r = sdB rs := ⟨_, rfl⟩
  rw [← hl2, ← hr2] at R
  rw [← hl2] at CL
  rw [← hr2] at CR
  clear hl2 hr2
  go_enter Try.func22, Try.ntmps22
  go_wp2_with fail
  rw [← HW.out]
  refine CL.out.mono ?_
  rintro e w1 ⟨rfl, hb⟩
  have B1 := Lib.hid (HB.out.trans (hb.mono HB.out.size))
  obtain ⟨lt, x0, x1⟩ := X.out.keep hb
  clear hb
  cases l with
  | false =>
    go_wp2
    go_ret
    exact ⟨by rw [R.out]; rfl, B1.out⟩
  | true =>
    go_wp2_with (go_at_call 38; refine (CR.out _ B1.out).mono ?_; rintro e w2 ⟨rfl, hb⟩; have B2 := Lib.hid (B1.out.trans (hb.mono B1.out.size)); clear hb)
    go_ret
    exact ⟨by rw [R.out, Bool.true_and]; rfl, B2.out⟩

set_option maxHeartbeats 2000000 in
theorem specIsModalSequent_any (ls rs : List (List UInt8)) (a : Option Addr) (cap : Nat) (b : Option Addr) (d : Nat) (w : World) (hl : SmL ls) (hr : SmL rs) (h : AtS w a ls.length ls) (h' : AtS w b rs.length rs) :
    Calls Try.prog 9 #[.agg #[.slice a ls.length cap, .slice b rs.length d]] w fun e w' => e = .returned (.bool (mqB ls rs)) ∧ Below w.heap.size w w' := by
  obtain ⟨W, hW⟩ : ∃ W, W = w.alloc (.cells #[.slice a ls.length cap, .slice b rs.length d] 28) := ⟨_, rfl⟩
  have HB := Lib.hid (show Below w.heap.size w W by rw [hW]; exact (Below.refl _ _).alloc (Nat.le_refl _) _)
  have CL := Lib.hid (l11Is_any ls rs a cap b d W hl hr (h.keep HB.out (Nat.le_refl _)) (h'.keep HB.out (Nat.le_refl _)))
  have HW := Lib.hid hW
  clear h h' hW
  go_enter Try.func9, Try.ntmps9
  go_wp2_with fail
  rw [← HW.out]
  refine CL.out.mono ?_
  rintro e w1 ⟨rfl, hb⟩
  have B1 := Lib.hid (HB.out.trans (hb.mono HB.out.size))
  clear hb
  go_wp2
  go_ret
  exact ⟨rfl, B1.out⟩

set_option maxHeartbeats 2000000 in
theorem implIsModalSequent_any (ls rs : List (List UInt8)) (a : Option Addr) (cap : Nat) (b : Option Addr) (d : Nat) (w : World) (hl : SmL ls) (hr : SmL rs) (h : AtS w a ls.length ls) (h' : AtS w b rs.length rs) :
    Calls Try.prog 11 #[.agg #[.slice a ls.length cap, .slice b rs.length d]] w fun e w' => e = .returned (.bool (mqB ls rs)) ∧ Below w.heap.size w w' := by
  obtain ⟨W, hW⟩ : ∃ W, W = w.alloc (.cells #[.slice a ls.length cap, .slice b rs.length d] 28) := ⟨_, rfl⟩
  have HB := Lib.hid (show Below w.heap.size w W by rw [hW]; exact (Below.refl _ _).alloc (Nat.le_refl _) _)
  have X := Lib.hid (show Bq W w.heap.size a ls.length cap b rs.length d by rw [hW]; exact Bq.new _ _ _ _ _ _ _ _)
  have CL := Lib.hid (isSide_any ls a cap W hl.1 hl.2 (h.keep HB.out (Nat.le_refl _)))
  have CR := Lib.hid (fun W' (hW' : Below w.heap.size w W') => isSide_any rs b d W' hr.1 hr.2 (h'.keep hW' (Nat.le_refl _)))
  have HW := Lib.hid hW
  have R := Lib.hid (show mqB ls rs = (sdB ls && sdB rs) from rfl)
  clear h h' hW
  obtain ⟨l, hl2⟩ : ∃ l, l = sdB ls := ⟨_, rfl⟩
  obtain ⟨r, hr2⟩ : ∃ r, r = sdB rs := ⟨_, rfl⟩
  rw [← hl2, ← hr2] at R
  rw [← hl2] at CL
  rw [← hr2] at CR
  clear hl2 hr2
  go_enter Try.func11, Try.ntmps11
  go_wp2_with fail
  rw [← HW.out]
  refine CL.out.mono ?_
  rintro e w1 ⟨rfl, hb⟩
  have B1 := Lib.hid (HB.out.trans (hb.mono HB.out.size))
  obtain ⟨lt, x0, x1⟩ := X.out.keep hb
  clear hb
  cases l with
  | false =>
    go_wp2
    go_ret
    exact ⟨by rw [R.out]; rfl, B1.out⟩
  | true =>
    go_wp2_with (go_at_call 24; refine (CR.out _ B1.out).mono ?_; rintro e w2 ⟨rfl, hb⟩; have B2 := Lib.hid (B1.out.trans (hb.mono B1.out.size)); clear hb)
    go_ret
    exact ⟨by rw [R.out, Bool.true_and]; rfl, B2.out⟩

end Go.Proofs.Ytpccocmiadpgiaa
