/- Contracts of FormulaText of the model and of the program, at every list of nodes. Conditions: those in the theorems. -/
import Derived.Test.YtnoaaklkbfbdbaaText4
import Derived.Test.YtnoaaklkbfbdbaaJn06
namespace Go.Proofs.Ytnoaaklkbfbdbaa
open Go.RowKit

noncomputable def txR (xs : List Nd) : ByteArray := if isB xs xs.length then str ((toFm xs).wr 0) else ⟨#[]⟩
def txC (xs : List Nd) : Int := if isB xs xs.length then 0 else 1
theorem tx_bad {xs : List Nd} (h : isB xs xs.length = false) : txR xs = ⟨#[]⟩ ∧ txC xs = 1 := by unfold txR txC; rw [h]; exact ⟨rfl, rfl⟩
theorem tx_good {xs : List Nd} (h : isB xs xs.length = true) : txR xs = str ((toFm xs).wr 0) ∧ txC xs = 0 := by unfold txR txC; rw [h]; exact ⟨rfl, rfl⟩
theorem ret_text {s t : ByteArray} {c d : Int} (h1 : s = t) (h2 : c = d) : Ending.returned (.tuple #[.string s, .int .i64 c]) = .returned (.tuple #[.string t, .int .i64 d]) := by rw [h1, h2]
set_option maxHeartbeats 400000 in
theorem specFormulaText_v (x0 : List Nd) (v : Value) (lo hi : Nat) (w : World) (hl : x0.length ≤ 1048576) (h : InN w lo hi v x0) :
    Calls Try.prog 31 #[v] w fun e w' => e = .returned (.tuple #[.string (txR x0), .int .i64 (txC x0)]) ∧ Below w.heap.size w w' := by
  obtain ⟨a, cap, rfl, hat, hc1, hc2⟩ := h.at'
  have H := Lib.hid hat
  cases hb : isB x0 x0.length
  · obtain ⟨e1, e2⟩ := tx_bad hb
    rw [e1, e2]
    have HB := Lib.hid hb
    clear hb e1 e2 h hat
    go_enter Try.func31, Try.ntmps31
    go_wp2_with (go_at_call 67; refine (l02Is_any _ _ _ _ _ hl H.out).mono ?_; rw [HB.out]; rintro e w' ⟨rfl, rfl⟩)
    go_ret2
    exact ⟨rfl, Below.refl _ _⟩
  · obtain ⟨e1, e2⟩ := tx_good hb
    rw [e1, e2]
    obtain ⟨f1, f2, f3⟩ := toFm_of hb
    have h40 := (is_pos' hb).2
    obtain ⟨b, off, rfl, hF⟩ := hat.formula hb hc1 hc2
    have HB := Lib.hid hb
    have HF := Lib.hid hF
    clear hb e1 e2 h hat f2 f3 hF
    obtain ⟨S, hS⟩ : ∃ S, S = str ((toFm x0).wr 0) := ⟨_, rfl⟩
    have HS := Lib.hid hS
    rw [← hS]
    clear hS
    obtain ⟨len, hlen⟩ : ∃ len, len = x0.length := ⟨_, rfl⟩
    rw [← hlen] at H HF HB h40 hl ⊢
    clear hlen
    go_enter Try.func31, Try.ntmps31
    go_wp2_with fail
    refine (l02Is_any _ _ _ _ _ hl H.out).mono ?_
    rw [HB.out]
    rintro e w' ⟨rfl, rfl⟩
    go_wp2_with fail
    refine (l02Text_any (toFm x0) f1 b off len cap _ (by omega) HF.out).mono ?_
    rw [← HS.out]
    rintro e w1 ⟨rfl, hb1⟩
    go_wp2
    go_ret2
    exact ⟨rfl, hb1⟩

set_option maxHeartbeats 400000 in
theorem implFormulaText_v (x0 : List Nd) (v : Value) (lo hi : Nat) (w : World) (hl : x0.length ≤ 1048576) (h : InN w lo hi v x0) :
    Calls Try.prog 28 #[v] w fun e w' => e = .returned (.tuple #[.string (txR x0), .int .i64 (txC x0)]) ∧ Below w.heap.size w w' := by
  obtain ⟨a, cap, rfl, hat, hc1, hc2⟩ := h.at'
  have H := Lib.hid hat
  cases hb : isB x0 x0.length
  · obtain ⟨e1, e2⟩ := tx_bad hb
    rw [e1, e2]
    have HB := Lib.hid hb
    clear hb e1 e2 h hat
    go_enter Try.func28, Try.ntmps28
    go_wp2_with (go_at_call 32; refine (implIsF_any _ _ _ _ _ hl H.out).mono ?_; rw [HB.out]; rintro e w' ⟨rfl, hb⟩)
    go_ret2
    exact ⟨rfl, hb⟩
  · obtain ⟨e1, e2⟩ := tx_good hb
    rw [e1, e2]
    obtain ⟨f1, f2, f3⟩ := toFm_of hb
    have h40 := (is_pos' hb).2
    obtain ⟨b, off, rfl, hF⟩ := hat.formula hb hc1 hc2
    have HB := Lib.hid hb
    have HF := Lib.hid hF
    clear hb e1 e2 h hat f2 f3 hF
    obtain ⟨S, hS⟩ : ∃ S, S = str ((toFm x0).wr 0) := ⟨_, rfl⟩
    have HS := Lib.hid hS
    rw [← hS]
    clear hS
    obtain ⟨len, hlen⟩ : ∃ len, len = x0.length := ⟨_, rfl⟩
    rw [← hlen] at H HF HB h40 hl ⊢
    clear hlen
    go_enter Try.func28, Try.ntmps28
    go_wp2_with fail
    refine (implIsF_any _ _ _ _ _ hl H.out).mono ?_
    rw [HB.out]
    rintro e w0 ⟨rfl, hb0⟩
    have B0 := Lib.hid hb0
    clear hb0
    go_wp2_with fail
    have hcall := textOf_any (toFm x0) f1 b off len cap w0 (by omega) (HF.out.keep B0.out (Nat.le_refl _))
    rw [show (⟨((toFm x0).wr 0).toArray⟩ : ByteArray) = S from HS.out.symm] at hcall
    refine hcall.mono ?_
    clear hcall
    rintro e w1 ⟨rfl, hb1⟩
    have B1 := Lib.hid (B0.out.trans (hb1.mono B0.out.size))
    clear hb1
    go_wp2
    go_ret2
    exact ⟨rfl, B1.out⟩

end Go.Proofs.Ytnoaaklkbfbdbaa
