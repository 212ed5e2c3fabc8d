/- Images of lists of formulas by the program, and ComposeSubstitutions of the model and of the program, at every argument. Conditions: those in the theorems. -/
import Derived.Test.YtbhgedabcclimaaThen
namespace Go.Proofs.Ytbhgedabcclimaa
open Go.RowKit
theorem Img1.keep {w w' : World} {g : FuncId} {caps : Array Value} {s : Int → List Nd} (h : Img1 w g caps s) (hb : Below w.heap.size w w') : Img1 w' g caps s := by
  intro q wr hq hr
  exact h q wr hq (hb.trans (hr.mono hb.size))

set_option maxHeartbeats 2000000 in
theorem imagesS_any (R : Nat) (s : Int → List Nd) (xss : List (List Nd)) (a : Option Addr) (len cap : Nat) (w : World) (hl : len ≤ 4096) (hf : fms xss) (h : AtNN w a len xss) (hi : Img1 w 105 #[.pointer (some ⟨R, 0, none⟩)] s) (hs : ∀ q : Nat, q ≤ 5 → 0 < (s q).length ∧ (s q).length ≤ 40) :
    Calls Try.prog 70 #[.func (.func 105) #[] #[.pointer (some ⟨R, 0, none⟩)], .slice a len cap] w fun e w' => ∃ v, e = .returned v ∧ OwnL w' w.heap.size v (thTo s xss len) ∧ Below w.heap.size w w' := by
  have H := Lib.hid h
  have HI := Lib.hid hi
  have HS := Lib.hid hs
  have F := Lib.hid hf
  have X := Lib.hid h.1
  obtain ⟨i0, hinf, hz0, hz1, hz2⟩ := info_parts infoNN
  clear h hi hs hf
  go_enter Try.func70, Try.ntmps70
  go_wp2_with (at_make; refine wpList_make_own _ rfl _ _ 30 rfl w.heap.size 26 i0 (.slice none 0 0) 1 Try.underlying30 hinf hz0 hz1 _ _ _ len rfl rfl rfl ?b2 ?b3 (Nat.le_refl _) ?_)
  case b2 => rw [hz2]; omega
  case b3 => unfold maxLen; omega
  intro w0 hown0 hgrow0
  have L0 := Lib.hid (ownL_row hown0)
  have B0 := Lib.hid ((Below.refl w.heap.size w).grown hgrow0 (Nat.le_refl _) (fun k h => by cases h))
  clear hown0 hinf hz0 hz1 hz2 hgrow0
  go_wp2
  go_loopw [5, 13] (fun v i wr => ∃ j : Nat, j ≤ len ∧ i = .int .i64 j ∧ OwnL wr w.heap.size v (thTo s xss j) ∧ Below w.heap.size w wr) (fun _ i _ => len - (intOf i).toNat)
  case atStart => exact ⟨0, Nat.zero_le _, rfl, L0.out, B0.out⟩
  case round =>
    obtain ⟨k, hk, rfl, hown, hbel⟩ := hrel
    have HO := Lib.hid hown
    have B := Lib.hid hbel
    have LN := Lib.hid (thTo_len s xss k)
    clear hown hbel
    by_cases hlt : k < len
    · have N := Lib.hid (thTo_succ s xss k)
      obtain ⟨b, off, rfl, hb, hc⟩ := (H.out.keep B.out (Nat.le_refl _)).2.resolve_left (by omega)
      obtain ⟨a1, c1, hcell, hat1⟩ := hc k hlt
      have hfk := F.out k (by rw [← X.out]; exact hlt)
      have A1 := Lib.hid hat1
      have FK := Lib.hid (is_treeTo' hfk)
      obtain ⟨m, hm⟩ : ∃ m, m = (nthL xss k).length := ⟨_, rfl⟩
      have hm40 : m ≤ 40 := by rw [hm]; exact (is_pos' hfk).2
      rw [← hm] at hcell A1 FK N
      clear hc hat1 hfk hm
      go_wp2_with fail
      refine (imageS_any R s (nthL xss k) a1 m c1 _ hm40 FK.out A1.out (HI.out.keep B.out) HS.out).mono ?_
      rintro e w1 ⟨v1, rfl, ho1, hb1⟩
      obtain ⟨a2, c2, rfl, -⟩ := ho1.at
      have O1 := Lib.hid ho1
      have B1 := Lib.hid hb1
      clear ho1 hb1
      go_wp2_with (at_builtin; refine list_appLL rfl _ _ rfl w.heap.size _ _ rfl HO.out B1.out _ _ O1.out ((Below.refl _ _).alloc (Nat.le_refl _) _) ⟨w1.heap.size, 0, none⟩ 1 rfl (World.cell?_alloc_at _ _ _ _ rfl) (by rw [LN.out]; omega) B.out.size ?_; intro v2 w2 ho2 hb2)
      have O2 := Lib.hid ho2
      have B2 := Lib.hid (B.out.trans hb2)
      clear ho2 hb2
      go_roundw
      case rel => exact ⟨k + 1, hlt, by go_num, by rw [N.out]; exact O2.out, B2.out⟩
      case measure => simp [intOf]; omega
    · obtain rfl : k = len := by omega
      go_wp2
      go_ret
      exact ⟨_, rfl, HO.out, B.out⟩

def cmL (xss yss : List (List Nd)) : List (List Nd) := thTo (sgI yss) xss 6
def cmR (xss yss : List (List Nd)) : List (List Nd) := if isS xss && isS yss then alR (cmL xss yss) else []
def cmC (xss yss : List (List Nd)) : Int := if isS xss && isS yss then alC (cmL xss yss) else 1
theorem cm_bad {xss yss : List (List Nd)} (h : (isS xss && isS yss) = false) : cmR xss yss = [] ∧ cmC xss yss = 1 := by simp only [cmR, cmC, h]; exact ⟨rfl, rfl⟩
theorem cm_good {xss yss : List (List Nd)} (h : (isS xss && isS yss) = true) : cmR xss yss = alR (cmL xss yss) ∧ cmC xss yss = alC (cmL xss yss) := by simp only [cmR, cmC, h]; exact ⟨rfl, rfl⟩
theorem th_len {s : Int → List Nd} {xss : List (List Nd)} {n : Nat} (hn : n ≤ xss.length) (hf : fms xss) (hs : ∀ q : Nat, q ≤ 5 → (s q).length ≤ 40) : ∀ j, j < n → (nthL (thTo s xss n) j).length ≤ 1600 := by
  intro j hj
  have hfj := hf j (by omega)
  have h40 := (is_pos' hfj).2
  rw [thTo_at hj]
  have := subTo_len (s := s) (m := 40) (by omega) (is_treeTo' hfj) hs (nthL xss j).length (Nat.le_refl _)
  omega
theorem szTo_le {xss : List (List Nd)} {n m : Nat} (h : ∀ j, j < n → (nthL xss j).length ≤ m) : ∀ k, k ≤ n → szTo xss k ≤ k * m := by
  intro k
  induction k with
  | zero => intro _; simp [szTo]
  | succ k ih =>
    intro hk
    have := ih (by omega)
    have := h k (by omega)
    rw [szTo, Nat.succ_mul]
    omega
theorem alR_len {xss : List (List Nd)} (h : xss.length ≤ 4096) : (alR xss).length ≤ 1048576 ∧ szTo (alR xss) (alR xss).length ≤ 1048576 := by
  cases e : limB xss xss.length
  · rw [(al_no e).1]; simp [szTo]
  · rw [(al_ok e).1]
    have := szTo_le (fun j hj => limB_at e hj) xss.length (Nat.le_refl _)
    omega
theorem ComposeSubstitutions_len (xss yss : List (List Nd)) : (cmR xss yss).length ≤ 1048576 ∧ szTo (cmR xss yss) (cmR xss yss).length ≤ 1048576 := by
  cases h : (isS xss && isS yss)
  · rw [(cm_bad h).1]; simp [szTo]
  · rw [(cm_good h).1]; exact alR_len (by rw [cmL, thTo_len]; omega)

set_option maxHeartbeats 2000000 in
theorem specComposeSubstitutions_v (x0 x1 : List (List Nd)) (v : Value) (lo hi : Nat) (u : Value) (lo' hi' : Nat) (w : World) (hl : x0.length ≤ 1048576 ∧ szTo x0 x0.length ≤ 1048576) (hl' : x1.length ≤ 1048576 ∧ szTo x1 x1.length ≤ 1048576) (h : InNN w lo hi v x0) (h' : InNN w lo' hi' u x1) :
    Calls Try.prog 28 #[v, u] w fun e w' => ∃ v', e = .returned (.tuple #[v', .int .i64 (cmC x0 x1)]) ∧ OwnL w' w.heap.size v' (cmR x0 x1) ∧ Below w.heap.size w w' := by
  obtain ⟨a, cap, rfl, hat⟩ := h.at
  obtain ⟨a', cap', rfl, hat'⟩ := h'.at
  have H := Lib.hid hat
  have H' := Lib.hid hat'
  have LI := Lib.hid (sz_all hl.2)
  have LI' := Lib.hid (sz_all hl'.2)
  have hl0 := hl.1
  have hl1 := hl'.1
  clear h h' hat hat' hl' hl
  cases hb : (isS x0 && isS x1)
  · obtain ⟨e1, e2⟩ := cm_bad hb
    rw [e1, e2]
    cases hb0 : isS x0
    · have HB := Lib.hid hb0
      clear hb e1 e2 hb0
      go_enter Try.func28, Try.ntmps28
      go_wp2_with fail
      refine (l03Is_any _ _ _ _ _ hl0 LI.out H.out).mono ?_
      rw [HB.out]
      rintro e w' ⟨rfl, rfl⟩
      go_wp2
      go_ret2
      exact ⟨_, rfl, ownL_nil _ _, Below.refl _ _⟩
    · have HB := Lib.hid hb0
      have HB' := Lib.hid (show isS x1 = false by rw [hb0] at hb; simpa using hb)
      clear hb e1 e2 hb0
      go_enter Try.func28, Try.ntmps28
      go_wp2_with fail
      refine (l03Is_any _ _ _ _ _ hl0 LI.out H.out).mono ?_
      rw [HB.out]
      rintro e w' ⟨rfl, rfl⟩
      go_wp2_with fail
      refine (l03Is_any _ _ _ _ _ hl1 LI'.out H'.out).mono ?_
      rw [HB'.out]
      rintro e w' ⟨rfl, rfl⟩
      go_wp2
      go_ret2
      exact ⟨_, rfl, ownL_nil _ _, Below.refl _ _⟩
  · obtain ⟨e1, e2⟩ := cm_good hb
    rw [e1, e2]
    have hbb : isS x0 = true ∧ isS x1 = true := by simpa using hb
    have HB := Lib.hid hbb.1
    have HB' := Lib.hid hbb.2
    have h6 := isS_six hbb.2
    have I := Lib.hid (show Img w a' x1 from ⟨by rw [← h6.1]; exact H'.out, h6.2⟩)
    have L6 := Lib.hid h6.1
    have L0 := Lib.hid (isS_six hbb.1).1
    have F0 := Lib.hid (isS_fms hbb.1)
    have TL := Lib.hid (show (cmL x0 x1).length = 6 by rw [cmL, thTo_len])
    have TS := Lib.hid (show ∀ j, j < (cmL x0 x1).length → (nthL (cmL x0 x1) j).length ≤ 1048576 by
      intro j hj
      rw [cmL, thTo_len] at hj
      have := th_len (s := sgI x1) (xss := x0) (n := 6) (by rw [(isS_six hbb.1).1]; exact Nat.le_refl _) (isS_fms hbb.1) (fun q hq => by rw [sgI, Int.toNat_natCast]; exact (h6.2 q hq).2) j hj
      rw [cmL]; omega)
    clear hb e1 e2 hbb h6
    go_enter Try.func28, Try.ntmps28
    go_wp2_with fail
    refine (l03Is_any _ _ _ _ _ hl0 LI.out H.out).mono ?_
    rw [HB.out]
    rintro e w' ⟨rfl, rfl⟩
    go_wp2_with fail
    refine (l03Is_any _ _ _ _ _ hl1 LI'.out H'.out).mono ?_
    rw [HB'.out]
    rintro e w' ⟨rfl, rfl⟩
    go_wp2_with fail
    rw [L6.out]
    refine (l03Then_any x0 x1 _ _ _ _ _ _ (by rw [L0.out]; omega) F0.out H.out I.out).mono ?_
    rw [L0.out]
    rintro e w1 ⟨v1, rfl, ho1, hb1⟩
    have B1 := Lib.hid hb1
    have O1 : Hid (OwnL w1 w.heap.size v1 (cmL x0 x1)) := ho1
    clear ho1 hb1
    go_wp2_with fail
    refine (l03All_any (cmL x0 x1) v1 w.heap.size _ (by rw [TL.out]; omega) TS.out O1.out).mono ?_
    rintro e w2 ⟨v2, rfl, ho2, rfl⟩
    have O2 := Lib.hid ho2
    clear ho2
    go_wp2
    go_ret2
    exact ⟨_, rfl, O2.out, B1.out⟩

set_option maxHeartbeats 2000000 in
theorem implComposeSubstitutions_g (x0 x1 : List (List Nd)) (a : Option Addr) (cap : Nat) (a' : Option Addr) (cap' : Nat) (w : World) (hl : x0.length ≤ 1048576 ∧ szTo x0 x0.length ≤ 1048576) (hl' : x1.length ≤ 1048576 ∧ szTo x1 x1.length ≤ 1048576) (hat : AtNN w a x0.length x0) (hat' : AtNN w a' x1.length x1) :
    Calls Try.prog 29 #[.slice a x0.length cap, .slice a' x1.length cap'] w fun e w' => ∃ v', e = .returned (.tuple #[v', .int .i64 (cmC x0 x1)]) ∧ OwnL w' w.heap.size v' (cmR x0 x1) ∧ Below w.heap.size w w' := by
  have H := Lib.hid hat
  have H' := Lib.hid hat'
  have LI := Lib.hid (sz_all hl.2)
  have LI' := Lib.hid (sz_all hl'.2)
  have hl0 := hl.1
  have hl1 := hl'.1
  clear hat hat' hl' hl
  cases hb : (isS x0 && isS x1)
  · obtain ⟨e1, e2⟩ := cm_bad hb
    rw [e1, e2]
    cases hb0 : isS x0
    · have HB := Lib.hid hb0
      clear hb e1 e2 hb0
      go_enter Try.func29, Try.ntmps29
      go_wp2_with fail
      refine (isSub_any _ _ _ _ _ hl0 LI.out H.out).mono ?_
      rw [HB.out]
      rintro e w1 ⟨rfl, hb1⟩
      go_wp2
      go_ret2
      exact ⟨_, rfl, ownL_nil _ _, hb1⟩
    · have HB := Lib.hid hb0
      have HB' := Lib.hid (show isS x1 = false by rw [hb0] at hb; simpa using hb)
      clear hb e1 e2 hb0
      go_enter Try.func29, Try.ntmps29
      go_wp2_with fail
      refine (isSub_any _ _ _ _ _ hl0 LI.out H.out).mono ?_
      rw [HB.out]
      rintro e w1 ⟨rfl, hb1⟩
      have B1 := Lib.hid hb1
      clear hb1
      go_wp2_with fail
      refine (isSub_any _ _ _ _ _ hl1 LI'.out (H'.out.keep B1.out (Nat.le_refl _))).mono ?_
      rw [HB'.out]
      rintro e w2 ⟨rfl, hb2⟩
      have B2 := Lib.hid (B1.out.trans (hb2.mono B1.out.size))
      clear hb2
      go_wp2
      go_ret2
      exact ⟨_, rfl, ownL_nil _ _, B2.out⟩
  · obtain ⟨e1, e2⟩ := cm_good hb
    rw [e1, e2]
    have hbb : isS x0 = true ∧ isS x1 = true := by simpa using hb
    have HB := Lib.hid hbb.1
    have HB' := Lib.hid hbb.2
    have h6 := isS_six hbb.2
    have I := Lib.hid (show Img w a' x1 from ⟨by rw [← h6.1]; exact H'.out, h6.2⟩)
    have L6 := Lib.hid h6.1
    have L0 := Lib.hid (isS_six hbb.1).1
    have F0 := Lib.hid (isS_fms hbb.1)
    have S6 := Lib.hid (show ∀ q : Nat, q ≤ 5 → 0 < (sgI x1 q).length ∧ (sgI x1 q).length ≤ 40 from fun q hq => by rw [sgI, Int.toNat_natCast]; exact h6.2 q hq)
    have TL := Lib.hid (show (cmL x0 x1).length = 6 by rw [cmL, thTo_len])
    have TS := Lib.hid (show ∀ j, j < (cmL x0 x1).length → (nthL (cmL x0 x1) j).length ≤ 1048576 by
      intro j hj
      rw [cmL, thTo_len] at hj
      have := th_len (s := sgI x1) (xss := x0) (n := 6) (by rw [(isS_six hbb.1).1]; exact Nat.le_refl _) (isS_fms hbb.1) (fun q hq => by rw [sgI, Int.toNat_natCast]; exact (h6.2 q hq).2) j hj
      rw [cmL]; omega)
    clear hb e1 e2 hbb h6
    cases hlim : limB (cmL x0 x1) 6
    all_goals
      have LM := Lib.hid hlim
      go_enter Try.func29, Try.ntmps29
      go_wp2_with fail
      refine (isSub_any _ _ _ _ _ hl0 LI.out H.out).mono ?_
      rw [HB.out]
      rintro e w1 ⟨rfl, hb1⟩
      have B1 := Lib.hid hb1
      clear hb1 hlim
      go_wp2_with fail
      refine (isSub_any _ _ _ _ _ hl1 LI'.out (H'.out.keep B1.out (Nat.le_refl _))).mono ?_
      rw [HB'.out]
      rintro e w2 ⟨rfl, hb2⟩
      have B2 := Lib.hid (B1.out.trans (hb2.mono B1.out.size))
      clear hb2
      go_wp2_with fail
      rw [L6.out]
      refine (subOf_any _ _ _).mono ?_
      rintro e w3 ⟨rfl, hc3, hlt3, hb3⟩
      have B3 := Lib.hid (B2.out.trans (hb3.mono B2.out.size))
      have C3 := Lib.hid (subOf_img hc3 hlt3 ((I.out.keep B3.out (Nat.le_refl _))))
      clear hc3 hlt3 hb3
      go_wp2_with fail
      refine (imagesS_any _ (sgI x1) x0 _ _ _ _ (by rw [L0.out]; omega) F0.out (H.out.keep B3.out (Nat.le_refl _)) C3.out S6.out).mono ?_
      rw [L0.out]
      rintro e w4 ⟨v4, rfl, ho4, hb4⟩
      have B4 := Lib.hid (B3.out.trans (hb4.mono B3.out.size))
      have O4 : Hid (OwnL w4 w.heap.size v4 (cmL x0 x1)) := ho4.mono B3.out.size
      obtain ⟨a4, c4, rfl, hat4⟩ := O4.out.at
      have A4 := Lib.hid hat4
      clear ho4 hb4 hat4
      go_wp2_with fail
      refine (areLim_any (cmL x0 x1) _ _ _ _ (by rw [TL.out]; omega) TS.out A4.out).mono ?_
      rw [TL.out, LM.out]
      rintro e w5 ⟨rfl, rfl⟩
      go_wp2
      go_ret2
    · obtain ⟨e1, e2⟩ := al_no (xss := cmL x0 x1) (by rw [TL.out]; exact LM.out)
      exact ⟨.slice none 0 0, (by rw [e2] <;> rfl), by rw [e1]; exact ownL_nil _ _, B4.out⟩
    · obtain ⟨e1, e2⟩ := al_ok (xss := cmL x0 x1) (by rw [TL.out]; exact LM.out)
      exact ⟨_, (by rw [e2] <;> rfl), by rw [e1]; exact O4.out, B4.out⟩

theorem implComposeSubstitutions_v (x0 x1 : List (List Nd)) (v : Value) (lo hi : Nat) (u : Value) (lo' hi' : Nat) (w : World) (hl : x0.length ≤ 1048576 ∧ szTo x0 x0.length ≤ 1048576) (hl' : x1.length ≤ 1048576 ∧ szTo x1 x1.length ≤ 1048576) (h : InNN w lo hi v x0) (h' : InNN w lo' hi' u x1) :
    Calls Try.prog 29 #[v, u] w fun e w' => ∃ v', e = .returned (.tuple #[v', .int .i64 (cmC x0 x1)]) ∧ OwnL w' w.heap.size v' (cmR x0 x1) ∧ Below w.heap.size w w' := by
  obtain ⟨a, cap, rfl, hat⟩ := h.at
  obtain ⟨a', cap', rfl, hat'⟩ := h'.at
  exact implComposeSubstitutions_g x0 x1 a cap a' cap' w hl hl' hat hat'

end Go.Proofs.Ytbhgedabcclimaa
