/- Contracts of DepthsOf of the model and of the program, at every list of nodes. Conditions: those in the theorems. -/
import Derived.Test.YtegdbcdffnopfaaDeep
namespace Go.Proofs.Ytegdbcdffnopfaa
open Go.RowKit

noncomputable def dhR (xs : List Nd) : Int := if isB xs xs.length then ((toFm xs).ht : Nat) else 0
noncomputable def dmR (xs : List Nd) : Int := if isB xs xs.length then ((toFm xs).md : Nat) else 0
def dpC (xs : List Nd) : Int := if isB xs xs.length then 0 else 1
theorem dp_bad {xs : List Nd} (h : isB xs xs.length = false) : dhR xs = 0 ∧ dmR xs = 0 ∧ dpC xs = 1 := by unfold dhR dmR dpC; rw [h]; exact ⟨rfl, rfl, rfl⟩
theorem dp_good {xs : List Nd} (h : isB xs xs.length = true) : dhR xs = ((toFm xs).ht : Nat) ∧ dmR xs = ((toFm xs).md : Nat) ∧ dpC xs = 0 := by unfold dhR dmR dpC; rw [h]; exact ⟨rfl, rfl, rfl⟩

set_option maxHeartbeats 400000 in
theorem specDepthsOf_v (x0 : List Nd) (v : Value) (lo hi : Nat) (w : World) (hl : x0.length ≤ 1048576) (h : InN w lo hi v x0) :
    Calls Try.prog 39 #[v] w fun e w' => e = .returned (.tuple #[.int .i64 (dhR x0), .int .i64 (dmR x0), .int .i64 (dpC x0)]) ∧ Below w.heap.size w w' := by
  obtain ⟨a, cap, rfl, hat, hc1, hc2⟩ := h.at'
  have H := Lib.hid hat
  cases hb : isB x0 x0.length
  · obtain ⟨e1, e2, e3⟩ := dp_bad hb
    rw [e1, e2, e3]
    have HB := Lib.hid hb
    clear hb e1 e2 e3 h hat
    go_enter Try.func39, Try.ntmps39
    go_wp2_with (go_at_call 51; refine (l02Is_any _ _ _ _ _ hl H.out).mono ?_; rw [HB.out]; rintro e w' ⟨rfl, rfl⟩)
    go_ret3
    exact ⟨rfl, Below.refl _ _⟩
  · obtain ⟨e1, e2, e3⟩ := dp_good hb
    rw [e1, e2, e3]
    obtain ⟨f1, f2, f3⟩ := toFm_of hb
    have hat2 := hat
    obtain ⟨len, hlen⟩ : ∃ len, len = x0.length := ⟨_, rfl⟩
    rw [← hlen] at H hb hl hat2 hc1 ⊢
    rw [f2] at hat2
    obtain ⟨b, off, rfl, hF⟩ := hat2.fm hc1 hc2
    have HB := Lib.hid hb
    have HF := Lib.hid hF
    clear hb e1 e2 e3 hat hat2 h f2 f3 hlen hF hc1 hc2
    go_enter Try.func39, Try.ntmps39
    go_wp2_with fail
    refine (l02Is_any _ _ _ _ _ hl H.out).mono ?_
    rw [HB.out]
    rintro e w' ⟨rfl, rfl⟩
    go_wp2_with fail
    refine (l02Depths_any (toFm x0) f1 b off len cap _ hl HF.out).mono ?_
    rintro e w' ⟨rfl, rfl⟩
    go_wp2
    go_ret3
    exact ⟨rfl, Below.refl _ _⟩

set_option maxHeartbeats 400000 in
theorem implDepthsOf_v (x0 : List Nd) (v : Value) (lo hi : Nat) (w : World) (hl : x0.length ≤ 1048576) (h : InN w lo hi v x0) :
    Calls Try.prog 40 #[v] w fun e w' => e = .returned (.tuple #[.int .i64 (dhR x0), .int .i64 (dmR x0), .int .i64 (dpC x0)]) ∧ Below w.heap.size w w' := by
  obtain ⟨a, cap, rfl, hat, hc1, hc2⟩ := h.at'
  have H := Lib.hid hat
  cases hb : isB x0 x0.length
  · obtain ⟨e1, e2, e3⟩ := dp_bad hb
    rw [e1, e2, e3]
    have HB := Lib.hid hb
    clear hb e1 e2 e3 h hat
    go_enter Try.func40, Try.ntmps40
    go_wp2_with (go_at_call 54; refine (implIsF_any _ _ _ _ _ hl H.out).mono ?_; rw [HB.out]; rintro e w' ⟨rfl, hb⟩)
    go_ret3
    exact ⟨rfl, hb⟩
  · obtain ⟨e1, e2, e3⟩ := dp_good hb
    rw [e1, e2, e3]
    obtain ⟨f1, f2, f3⟩ := toFm_of hb
    have hat2 := hat
    rw [f2] at hat2
    rw [← f2] at hat2
    obtain ⟨len, hlen⟩ : ∃ len, len = x0.length := ⟨_, rfl⟩
    rw [← hlen] at H hb hl hat2 hc1 ⊢
    have hat3 := hat2
    rw [f2] at hat3
    obtain ⟨b, off, rfl, hF⟩ := hat3.fm hc1 hc2
    have HB := Lib.hid hb
    have HD := Lib.hid (show x0.drop 0 = (toFm x0).enc ++ [] by rw [List.append_nil]; exact f2)
    clear hb e1 e2 e3 hat hat2 hat3 h f2 f3 hlen hF hc1 hc2
    go_enter Try.func40, Try.ntmps40
    go_wp2_with fail
    refine (implIsF_any _ _ _ _ _ hl H.out).mono ?_
    rw [HB.out]
    rintro e w0 ⟨rfl, hb0⟩
    have B0 := Lib.hid hb0
    clear hb0
    go_wp2_with fail
    refine (depthsAt_any x0 b off len cap w0 hl (H.out.keep B0.out (Nat.le_refl _)) (toFm x0) f1 0 [] HD.out).mono ?_
    rintro e w' ⟨rfl, rfl⟩
    go_wp2
    go_ret3
    exact ⟨rfl, B0.out⟩

end Go.Proofs.Ytegdbcdffnopfaa
