/- The model's reader of point formulas in its box: l10Next and l10Digit. Conditions: those in the theorems. -/
import Derived.BigQuiet
import Derived.Test.YtfkdefmafhlmnaaJn05
import Derived.Test.YtfkdefmafhlmnaaGst
namespace Go.Proofs.Ytfkdefmafhlmnaa
open Go.RowKit

/-- The reader lies in block b: the text, the place in it, and whether it has failed; s is what is left. -/
def Rm (w : World) (b : Nat) (T : ByteArray) (s : List UInt8) (fl : Bool) : Prop :=
  b < w.heap.size ∧ w.cell? ⟨b, 0, none⟩ = some (.string T) ∧ w.cell? ⟨b, 1, none⟩ = some (.int .i64 ((T.size - s.length : Nat) : Int)) ∧ w.cell? ⟨b, 2, none⟩ = some (.bool fl) ∧ (w.frozen? ⟨b, 1, none⟩ = false ∧ w.frozen? ⟨b, 2, none⟩ = false) ∧ s.length ≤ T.size ∧ s = T.data.toList.drop (T.size - s.length)
theorem Rm.keep {w w' : World} {b : Nat} {T : ByteArray} {s : List UInt8} {fl : Bool} (h : Rm w b T s fl) (hb : Below w.heap.size w w') : Rm w' b T s fl := by
  obtain ⟨h1, h2, h3, h4, ⟨h5, h6⟩, h7⟩ := h
  exact ⟨Nat.lt_of_lt_of_le h1 hb.size, (hb.cell (p := ⟨b, 0, none⟩) h1).trans h2, (hb.cell (p := ⟨b, 1, none⟩) h1).trans h3, (hb.cell (p := ⟨b, 2, none⟩) h1).trans h4, ⟨(hb.frozen (p := ⟨b, 1, none⟩) h1).trans h5, (hb.frozen (p := ⟨b, 2, none⟩) h1).trans h6⟩, h7⟩
theorem below_grown {w w' : World} {r : Option Nat} (h : Below w.heap.size w w') : w.grownBy w' r := ⟨h.os, h.tape, h.output, h.size, fun i hi _ => h.block i hi⟩
theorem grown_setM (w : World) (b o : Nat) (v : Value) : w.grownBy (w.setCell ⟨b, o, none⟩ v) (some b) :=
  ⟨rfl, rfl, rfl, by simp [World.setCell], fun k _ hne => Below.heap_setCell _ _ _ _ (fun e => hne (by rw [e]))⟩
theorem Rm.fail {w : World} {b : Nat} {T : ByteArray} {s : List UInt8} {fl : Bool} (h : Rm w b T s fl) : Rm (w.setCell ⟨b, 2, none⟩ (.bool true)) b T s true := by
  obtain ⟨h1, h2, h3, h4, ⟨h5, h6⟩, h7⟩ := h
  refine ⟨by simpa [World.setCell] using h1, ?_, ?_, World.cell?_setCell_same _ _ _ h4, ⟨by rw [World.frozen?_setCell]; exact h5, by rw [World.frozen?_setCell]; exact h6⟩, h7⟩
  · rw [World.cell?_setCell_other _ _ _ _ (fun e => by cases e)]; exact h2
  · rw [World.cell?_setCell_other _ _ _ _ (fun e => by cases e)]; exact h3
theorem Rm.step {w : World} {b : Nat} {T : ByteArray} {c : UInt8} {s : List UInt8} {fl : Bool} (h : Rm w b T (c :: s) fl) : Rm (w.setCell ⟨b, 1, none⟩ (.int .i64 ((T.size - s.length : Nat) : Int))) b T s fl ∧ T.size - s.length = T.size - (c :: s).length + 1 ∧ T.data.toList[T.size - (c :: s).length]? = some c := by
  obtain ⟨h1, h2, h3, h4, ⟨h5, h6⟩, h7, h8⟩ := h
  simp only [List.length_cons] at h7
  have e1 : T.size - s.length = T.size - (c :: s).length + 1 := by simp only [List.length_cons]; omega
  have hd : s = T.data.toList.drop (T.size - s.length) := by
    rw [e1, ← List.drop_drop]
    have := congrArg (List.drop 1) h8
    simpa using this
  refine ⟨⟨by simpa [World.setCell] using h1, ?_, World.cell?_setCell_same _ _ _ h3, ?_, ⟨by rw [World.frozen?_setCell]; exact h5, by rw [World.frozen?_setCell]; exact h6⟩, by omega, hd⟩, e1, ?_⟩
  · rw [World.cell?_setCell_other _ _ _ _ (fun e => by cases e)]; exact h2
  · rw [World.cell?_setCell_other _ _ _ _ (fun e => by cases e)]; exact h4
  · have := congrArg (fun l => l[0]?) h8
    simp only [List.getElem?_cons_zero, List.getElem?_drop, Nat.add_zero] at this
    exact this.symm

set_option maxHeartbeats 2000000 in
theorem l10Next_any (w : World) (b : Nat) (T : ByteArray) (s : List UInt8) (fl : Bool) (hT : T.size ≤ 1048576) (h : Rm w b T s fl) :
    Calls Try.prog 83 #[.pointer (some ⟨b, 0, none⟩)] w fun e w' => e = .returned (.int .u8 (hdN s)) ∧ Rm w' b T s.tail (fl || s.isEmpty) ∧ w.grownBy w' (some b) := by
  have H := Lib.hid h
  obtain ⟨h1, h2, h3, h4, ⟨h5, h6⟩, h7, h8⟩ := h
  cases s with
  | nil =>
    have e1 : ((T.size - ([] : List UInt8).length : Nat) : Int) = (T.size : Int) := by simp
    rw [e1] at h3
    clear e1 h7 h8
    go_enter Try.func83, Try.ntmps83
    go_wp2_with (go_quiet (fail))
    go_ret
    refine ⟨rfl, ?_, grown_trans (below_grown (below_drewN (Below.refl _ _) _)) (grown_setM _ _ _ _)⟩
    rw [show (fl || ([] : List UInt8).isEmpty) = true by simp]
    exact (H.out.keep (below_drewN (Below.refl _ _) _)).fail
  | cons c s =>
    obtain ⟨-, q2, q3⟩ := H.out.step
    obtain ⟨k, hk⟩ : ∃ k, k = T.size - (c :: s).length := ⟨_, rfl⟩
    rw [← hk] at h3 q2 q3
    simp only [List.length_cons] at h7 hk
    have hk1 : k < T.size := by omega
    have hc : Hid (∀ h : k < T.size, (T[k]'h).toNat = c.toNat) := Lib.hid (fun h => by
      have e : T.data.toList[k]? = some T[k] := by
        rw [List.getElem?_eq_getElem (by exact h)]; rfl
      rw [e] at q3
      rw [Option.some.inj q3])
    have Q2 := Lib.hid q2
    clear hk q2 q3 h7 h8
    go_enter Try.func83, Try.ntmps83
    go_wp2_with (go_quiet (fail))
    go_ret
    have st := (H.out.keep (below_drewN (Below.refl _ _) nq)).step.1
    rw [Q2.out, show ((k + 1 : Nat) : Int) = (k : Int) + 1 by omega] at st
    refine ⟨?_, ?_, ?_⟩
    · show Ending.returned (Value.int .u8 ((T[k].toNat : Nat) : Int)) = _
      rw [hc.out]; rfl
    · rw [show (fl || (c :: s).isEmpty) = fl by simp]
      first | exact st | exact st.keep (below_drewN (Below.refl _ _) _)
    · first | exact grown_trans (below_grown (below_drewN (Below.refl _ _) _)) (grown_setM _ _ _ _) | exact grown_trans (grown_trans (below_grown (below_drewN (Below.refl _ _) _)) (grown_setM _ _ _ _)) (below_grown (below_drewN (Below.refl _ _) _))

theorem dg_val {s : List UInt8} (h : dgB s = true) : 48 ≤ hdN s ∧ hdN s ≤ 57 := by
  unfold dgB at h; simpa using h
theorem dg_not {s : List UInt8} (h : dgB s = false) : hdN s < 48 ∨ 57 < hdN s := by
  unfold dgB at h; simp at h; omega

set_option maxHeartbeats 2000000 in
theorem l10Digit_any (w : World) (b : Nat) (T : ByteArray) (s : List UInt8) (fl : Bool) (hT : T.size ≤ 1048576) (h : Rm w b T s fl) :
    Calls Try.prog 84 #[.pointer (some ⟨b, 0, none⟩)] w fun e w' => e = .returned (.int .i64 (dvN s)) ∧ Rm w' b T s.tail (fl || !dgB s) ∧ w.grownBy w' (some b) := by
  have H := Lib.hid h
  have hc := hdN_lt s
  have EM := Lib.hid (show s.isEmpty = true → dgB s = false from fun e => by cases s with | nil => rfl | cons c s => simp at e)
  have NX := Lib.hid (l10Next_any w b T s fl hT H.out)
  have DV := Lib.hid (show dvN s = if dgB s then (hdN s : Int) - 48 else 0 from rfl)
  cases hd : dgB s with
  | false =>
    have hn := dg_not hd
    rw [hd] at DV
    obtain ⟨c, hcc⟩ : ∃ c, c = hdN s := ⟨_, rfl⟩
    rw [← hcc] at hn NX hc
    clear hcc EM hd
    rcases hn with hn | hn
    · have hn' : (c : Int) < 48 := by omega
      go_enter Try.func84, Try.ntmps84
      go_wp2_with fail
      refine NX.out.mono ?_
      rintro e w1 ⟨rfl, hr, hg⟩
      have HR := Lib.hid hr
      have HG := Lib.hid hg
      obtain ⟨r1, -, -, r4, ⟨-, r6⟩, -⟩ := hr
      clear hg
      go_wp2
      go_ret
      exact ⟨ret_int (by rw [DV.out]; rfl), by rw [show (fl || !false) = true by simp]; exact HR.out.fail, grown_trans HG.out (grown_setM _ _ _ _)⟩
    · have hn' : (57 : Int) < c := by omega
      have hn2 : ¬ (c : Int) < 48 := by omega
      go_enter Try.func84, Try.ntmps84
      go_wp2_with fail
      refine NX.out.mono ?_
      rintro e w1 ⟨rfl, hr, hg⟩
      have HR := Lib.hid hr
      have HG := Lib.hid hg
      obtain ⟨r1, -, -, r4, ⟨-, r6⟩, -⟩ := hr
      clear hg
      go_wp2
      go_ret
      exact ⟨ret_int (by rw [DV.out]; rfl), by rw [show (fl || !false) = true by simp]; exact HR.out.fail, grown_trans HG.out (grown_setM _ _ _ _)⟩
  | true =>
    obtain ⟨h1, h2⟩ := dg_val hd
    have E1 := Lib.hid (show (fl || s.isEmpty) = (fl || !true) by
      cases he : s.isEmpty with
      | false => rfl
      | true => rw [EM.out he] at hd; cases hd)
    rw [hd] at DV
    obtain ⟨c, hcc⟩ : ∃ c, c = hdN s := ⟨_, rfl⟩
    rw [← hcc] at h1 h2 NX hc DV
    clear hcc EM hd
    have n1 : ¬ (c : Int) < 48 := by omega
    have n2 : ¬ (57 : Int) < c := by omega
    go_enter Try.func84, Try.ntmps84
    go_wp2_with fail
    refine NX.out.mono ?_
    rintro e w1 ⟨rfl, hr, hg⟩
    have HR := Lib.hid hr
    have HG := Lib.hid hg
    clear hr hg
    go_wp2
    go_ret
    exact ⟨ret_int (by rw [DV.out]; rfl), by rw [← E1.out]; exact HR.out, HG.out⟩

end Go.Proofs.Ytfkdefmafhlmnaa
