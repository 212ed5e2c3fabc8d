/- Texts of formulas: which strings are, and both sides' tests of it. Conditions: those in the theorems. -/
import Derived.Test.YtpccocmiadpgiaaPfv
import Derived.Test.YtpccocmiadpgiaaJn12
import Derived.Test.YtpccocmiadpgiaaWrite3
import Derived.Test.YtpccocmiadpgiaaText4
import Derived.Test.YtpccocmiadpgiaaJn14
namespace Go.Proofs.Ytpccocmiadpgiaa
open Go.RowKit

/-- A string is the text of a formula. -/
def gdP (s : ByteArray) : Prop := ∃ f : Fm, f.ok ∧ f.sz ≤ 40 ∧ s = str (f.wr 0)
open Classical in
noncomputable def gdB (s : ByteArray) : Bool := decide (gdP s)
theorem toFm_encD (f : Fm) (hf : f.ok) (h40 : f.sz ≤ 40) : toFm f.enc = f := by
  have hb := fm_is f hf h40
  obtain ⟨g1, g2, -⟩ := toFm_of hb
  exact (enc_inj _ g1 f [] [] hf (by rw [← g2])).1
theorem gd_read {s : ByteArray} {f : Fm} (hf : f.ok) (h40 : f.sz ≤ 40) (hs : s = str (f.wr 0)) : pfZ s = f.enc ∧ pfA s = 0 ∧ pfC s = 0 := by
  subst hs
  exact p_wr f hf h40
/-- What the reader tells of a string: it is none, or a formula whose text may be another one. -/
theorem gd_cases (s : ByteArray) : (¬ pfC s = 0 ∧ gdB s = false ∧ pfZ s = []) ∨ (pfC s = 0 ∧ ∃ f : Fm, f.ok ∧ f.sz ≤ 40 ∧ pfZ s = f.enc ∧ gdB s = decide (str (f.wr 0) = s)) := by
  have none : ¬ pfC s = 0 → gdB s = false := fun h => by
    unfold gdB
    rw [decide_eq_false_iff_not]
    rintro ⟨f, h1, h2, h3⟩
    exact h (gd_read h1 h2 h3).2.2
  rcases p_cases s.data.toList with ⟨h, h2, -⟩ | ⟨h, h2, -⟩ | ⟨h, -, f, h1, h2, h3⟩
  · have e : ¬ pfC s = 0 := by unfold pfC; omega
    exact .inl ⟨e, none e, h2⟩
  · have e : ¬ pfC s = 0 := by unfold pfC; omega
    exact .inl ⟨e, none e, h2⟩
  · refine .inr ⟨h, f, h1, h2, h3, ?_⟩
    unfold gdB
    refine decide_eq_decide.2 ⟨?_, fun e => ⟨f, h1, h2, e.symm⟩⟩
    rintro ⟨g, g1, g2, g3⟩
    have e := (gd_read g1 g2 g3).1
    have e3 : pfZ s = f.enc := h3
    rw [e3] at e
    have : f = g := by rw [← toFm_encD f h1 h2, ← toFm_encD g g1 g2, e]
    rw [this, g3]

set_option maxHeartbeats 2000000 in
set_option maxRecDepth 100000 in
theorem l02Good_any (s : ByteArray) (w : World) (hs : (s.size : Int) ≤ 1048576) :
    Calls Try.prog 43 #[.string s] w fun e w' => ∃ v, e = .returned (.tuple #[v, .bool (gdB s)]) ∧ OwnN w' w.heap.size v (pfZ s) ∧ Below w.heap.size w w' := by
  rcases gd_cases s with ⟨e0, e1, e2⟩ | ⟨e0, f, f1, f2, f3, f4⟩
  · have E0 : decide (pfC s = 0) = false := decide_eq_false e0
    obtain ⟨c, hc⟩ : ∃ c, c = pfC s := ⟨_, rfl⟩
    rw [← hc] at e0 E0
    have HC := Lib.hid hc
    have E1 := Lib.hid e1
    clear e1 e2 hc
    go_enter Try.func43, Try.ntmps43
    go_wp2_with fail
    refine (specParseFormula_v s _ hs).mono ?_
    rw [← HC.out]
    rintro e w1 ⟨v, rfl, ho, hb⟩
    have HO := Lib.hid ho
    have HB := Lib.hid hb
    clear ho hb
    go_wp2
    go_ret2
    exact ⟨_, by rw [E1.out]; rfl, HO.out, HB.out⟩
  · have HC := Lib.hid e0
    have F1 := Lib.hid f1
    have F3 := Lib.hid f3
    have F4 := Lib.hid f4
    have hz : f.enc.length ≤ 40 := by rw [Fm.enc_len]; exact f2
    clear e0 f1 f3 f4
    go_enter Try.func43, Try.ntmps43
    go_wp2_with fail
    refine (specParseFormula_v s _ hs).mono ?_
    rw [HC.out]
    rintro e w1 ⟨v, rfl, ho, hb⟩
    have HO := Lib.hid ho
    have HB := Lib.hid hb
    rw [F3.out] at ho
    obtain ⟨a, cap, rfl, hat, hc1, hc2⟩ := ho.inn.at'
    obtain ⟨b, off, rfl, haf⟩ := hat.fm hc1 hc2
    have AF := Lib.hid haf
    obtain ⟨len, hlen⟩ : ∃ len, len = f.enc.length := ⟨_, rfl⟩
    rw [← hlen] at AF hz HO ⊢
    clear ho hb hat hc1 hc2 haf hlen
    go_wp2_with fail
    refine (l02Text_any f F1.out b off len cap _ (by omega) AF.out).mono ?_
    obtain ⟨t, ht⟩ : ∃ t, t = str (f.wr 0) := ⟨_, rfl⟩
    rw [← ht]
    have G := Lib.hid (show gdB s = decide (t = s) by rw [F4.out, ← ht])
    clear ht
    rintro e w2 ⟨rfl, hb⟩
    have HB2 := Lib.hid (HB.out.trans (hb.mono HB.out.size))
    have HO2 := Lib.hid ((HO.out.inn.below hb HO.out.inn.2.1).1)
    clear hb
    by_cases e : t = s
    · subst e
      go_wp2
      go_ret2
      exact ⟨_, by rw [G.out]; rfl, HO2.out, HB2.out⟩
    · have en := bs_no e
      go_wp2
      go_ret2
      exact ⟨_, by rw [G.out, decide_eq_false e]; rfl, HO2.out, HB2.out⟩

set_option maxHeartbeats 2000000 in
set_option maxRecDepth 100000 in
theorem isFormulaText_any (s : ByteArray) (w : World) (hs : (s.size : Int) ≤ 1048576) :
    Calls Try.prog 39 #[.string s] w fun e w' => e = .returned (.bool (gdB s)) ∧ Below w.heap.size w w' := by
  rcases gd_cases s with ⟨e0, e1, e2⟩ | ⟨e0, f, f1, f2, f3, f4⟩
  · have E0 : decide (pfC s = 0) = false := decide_eq_false e0
    obtain ⟨c, hc⟩ : ∃ c, c = pfC s := ⟨_, rfl⟩
    rw [← hc] at e0 E0
    have HC := Lib.hid hc
    have E1 := Lib.hid e1
    clear e1 e2 hc
    go_enter Try.func39, Try.ntmps39
    go_wp2_with fail
    refine (implParseFormula_v s _ hs).mono ?_
    rw [← HC.out]
    rintro e w1 ⟨v, rfl, ho, hb⟩
    have HB := Lib.hid hb
    clear ho hb
    go_wp2
    go_ret
    exact ⟨by rw [E1.out]; rfl, HB.out⟩
  · have HC := Lib.hid e0
    have F1 := Lib.hid f1
    have F3 := Lib.hid f3
    have F4 := Lib.hid f4
    have hz : f.enc.length ≤ 40 := by rw [Fm.enc_len]; exact f2
    clear e0 f1 f3 f4
    go_enter Try.func39, Try.ntmps39
    go_wp2_with fail
    refine (implParseFormula_v s _ hs).mono ?_
    rw [HC.out]
    rintro e w1 ⟨v, rfl, ho, hb⟩
    have HB := Lib.hid hb
    rw [F3.out] at ho
    obtain ⟨a, cap, rfl, hat, hc1, hc2⟩ := ho.inn.at'
    obtain ⟨b, off, rfl, haf⟩ := hat.fm hc1 hc2
    have AF := Lib.hid haf
    obtain ⟨len, hlen⟩ : ∃ len, len = f.enc.length := ⟨_, rfl⟩
    rw [← hlen] at AF hz ⊢
    clear ho hb hat hc1 hc2 haf hlen
    go_wp2_with fail
    have hcall := textOf_any f F1.out b off len cap w1 (by omega) AF.out
    obtain ⟨t, ht⟩ : ∃ t, t = str (f.wr 0) := ⟨_, rfl⟩
    rw [show (⟨(f.wr 0).toArray⟩ : ByteArray) = t from ht.symm] at hcall
    have G := Lib.hid (show gdB s = decide (t = s) by rw [F4.out, ← ht])
    refine hcall.mono ?_
    clear ht hcall
    rintro e w2 ⟨rfl, hb⟩
    have HB2 := Lib.hid (HB.out.trans (hb.mono HB.out.size))
    clear hb
    by_cases e : t = s
    · subst e
      go_wp2
      go_ret
      exact ⟨by rw [G.out]; rfl, HB2.out⟩
    · have en := bs_no e
      go_wp2
      go_ret
      exact ⟨by rw [G.out, decide_eq_false e]; rfl, HB2.out⟩

end Go.Proofs.Ytpccocmiadpgiaa
