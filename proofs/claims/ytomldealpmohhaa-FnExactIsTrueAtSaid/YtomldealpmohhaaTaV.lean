/- Contracts of IsTrueAt of the model and of the program, at every argument. Conditions: those in the theorems. -/
import Derived.Test.YtomldealpmohhaaTrV
import Derived.Test.YtomldealpmohhaaTrM
import Derived.Test.YtomldealpmohhaaJn01
namespace Go.Proofs.Ytomldealpmohhaa
open Go.RowKit

def taC (c : Int) (n m : Int) : Int := if c = 0 then (if wlB n m then 0 else 2) else 1
noncomputable def taV (n : Int) (xs ys : List Int) (m : Int) (zs : List Nd) : Bool := if taC (mdC (isM n xs ys) (isB zs zs.length)) n m = 0 then bitB ((toFm zs).tr xs ys) m else false
theorem ta_no {n m : Int} {xs ys : List Int} {zs : List Nd} {b1 b2 : Bool} (h : isM n xs ys = b1) (h' : isB zs zs.length = b2) (hb : (b1 && b2) = false) : Ending.returned (.tuple #[.bool false, .int .i64 1]) = .returned (.tuple #[.bool (taV n xs ys m zs), .int .i64 (taC (mdC (isM n xs ys) (isB zs zs.length)) n m)]) := by rw [taV, h, h', mdC, hb]; rfl
theorem ta_out {n m : Int} {xs ys : List Int} {zs : List Nd} (h1 : isM n xs ys = true) (h2 : isB zs zs.length = true) (hw : wlB n m = false) : Ending.returned (.tuple #[.bool false, .int .i64 2]) = .returned (.tuple #[.bool (taV n xs ys m zs), .int .i64 (taC (mdC (isM n xs ys) (isB zs zs.length)) n m)]) := by
  have e : taC (mdC (isM n xs ys) (isB zs zs.length)) n m = 2 := by rw [h1, h2]; show (if wlB n m then (0 : Int) else 2) = 2; rw [hw]; rfl
  rw [taV, e]; rfl
theorem ta_ok {n m : Int} {xs ys : List Int} {zs : List Nd} (h1 : isM n xs ys = true) (h2 : isB zs zs.length = true) (hw : wlB n m = true) : Ending.returned (.tuple #[.bool (bitB ((toFm zs).tr xs ys) m), .int .i64 0]) = .returned (.tuple #[.bool (taV n xs ys m zs), .int .i64 (taC (mdC (isM n xs ys) (isB zs zs.length)) n m)]) := by
  have e : taC (mdC (isM n xs ys) (isB zs zs.length)) n m = 0 := by rw [h1, h2]; show (if wlB n m then (0 : Int) else 2) = 0; rw [hw]; rfl
  rw [taV, e]; rfl

set_option maxHeartbeats 1000000 in
theorem specIsTrueAt_v (n : Int) (xs ys : List Int) (m : Int) (zs : List Nd) (v : Value) (lo hi : Nat) (v' : Value) (lo' hi' : Nat) (w : World) (hl : xs.length ≤ 1048576) (hm : ys.length ≤ 1048576) (hz : zs.length ≤ 1048576) (h : InM w lo hi v n xs ys) (h' : InN w lo' hi' v' zs) :
    Calls Try.prog 19 #[v, .int .i64 m, v'] w fun e w' => e = .returned (.tuple #[.bool (taV n xs ys m zs), .int .i64 (taC (mdC (isM n xs ys) (isB zs zs.length)) n m)]) ∧ Below w.heap.size w w' := by
  obtain ⟨a, cap, b, d, rfl, hat, hat', -⟩ := h.at
  obtain ⟨c, cp, rfl, hn, hc1, hc2⟩ := h'.at'
  obtain ⟨W, hW, hb0, hx, hWs⟩ := boxM (w := w) n a xs.length cap b ys.length d 34
  have HB := Lib.hid hb0
  have X := Lib.hid hx
  have H := Lib.hid (hat.keep hb0 (Nat.le_refl _))
  have H' := Lib.hid (hat'.keep hb0 (Nat.le_refl _))
  have HN := Lib.hid (hn.keep hb0 (Nat.le_refl _))
  have HW := Lib.hid hW
  clear h h' hb0 hx hW hat hat' hn
  cases h1 : isM n xs ys
  · have F := Lib.hid h1
    have E := Lib.hid (ta_no (m := m) (zs := zs) h1 rfl rfl)
    rw [h1] at E
    clear h1
    go_enter Try.func19, Try.ntmps19
    go_wp2_with fail
    rw [← HW.out]
    refine (l06Is_any n xs ys _ _ _ _ _ _ _ hl hm H.out H'.out).mono ?_
    rw [F.out]
    rintro e w1 ⟨rfl, hb⟩
    have B1 := Lib.hid (HB.out.trans (hb.mono HB.out.size))
    clear hb
    go_wp2
    go_ret2
    exact ⟨E.out, B1.out⟩
  · have F := Lib.hid h1
    cases h2 : isB zs zs.length
    · have F2 := Lib.hid h2
      have E := Lib.hid (ta_no (m := m) h1 h2 rfl)
      rw [h1, h2] at E
      clear h1 h2
      go_enter Try.func19, Try.ntmps19
      go_wp2_with fail
      rw [← HW.out]
      refine (l06Is_any n xs ys _ _ _ _ _ _ _ hl hm H.out H'.out).mono ?_
      rw [F.out]
      rintro e w1 ⟨rfl, hb⟩
      have B1 := Lib.hid (HB.out.trans (hb.mono HB.out.size))
      have A1 := Lib.hid (HN.out.keep hb (Nat.le_refl _))
      clear hb
      go_wp2_with fail
      refine (l02Is_any _ _ _ _ _ hz A1.out).mono ?_
      rw [F2.out]
      rintro e w' ⟨rfl, rfl⟩
      go_wp2
      go_ret2
      exact ⟨E.out, B1.out⟩
    · have F2 := Lib.hid h2
      obtain ⟨e1, e2, -⟩ := isM_rel h1
      have hn0 : 0 ≤ n := by omega
      have hn30 : n ≤ 30 := by omega
      clear e1 e2
      cases hw : wlB n m
      · have E := Lib.hid (ta_out h1 h2 hw)
        have FW := Lib.hid hw
        clear h1 h2 hw
        rw [F.out, F2.out] at E
        go_enter Try.func19, Try.ntmps19
        go_wp2_with fail
        rw [← HW.out]
        refine (l06Is_any n xs ys _ _ _ _ _ _ _ hl hm H.out H'.out).mono ?_
        rw [F.out]
        rintro e w1 ⟨rfl, hb⟩
        have B1 := Lib.hid (HB.out.trans (hb.mono HB.out.size))
        have A1 := Lib.hid (HN.out.keep hb (Nat.le_refl _))
        have X1 := Lib.hid (X.out.keep hb)
        clear hb
        go_wp2_with fail
        refine (l02Is_any _ _ _ _ _ hz A1.out).mono ?_
        rw [F2.out]
        rintro e w' ⟨rfl, rfl⟩
        obtain ⟨lt, x0, x1, x2⟩ := X1.out
        go_wp2_with fail
        refine (l05World_any n m _ _ _ _ hn0 hn30).mono ?_
        rw [FW.out]
        rintro e w2 ⟨rfl, hb⟩
        have B2 := Lib.hid (B1.out.trans (hb.mono B1.out.size))
        clear hb x0 x1 x2
        go_wp2
        go_ret2
        exact ⟨E.out, B2.out⟩
      · have E := Lib.hid (ta_ok h1 h2 hw)
        have FW := Lib.hid hw
        have hm0 : 0 ≤ m := by simp [wlB] at hw; omega
        have hm1 : m ≤ 30 := by simp [wlB] at hw; omega
        clear hw
        obtain ⟨f1, -, -⟩ := toFm_of h2
        obtain ⟨b2, off, rfl, hF⟩ := HN.out.formula h2 hc1 hc2
        have HF := Lib.hid hF
        have T := Lib.hid (l06Truth_any (toFm zs) f1)
        have MO := Lib.hid (Mo.of h1 H.out H'.out)
        clear h1 h2 hF f1
        rw [F.out, F2.out] at E
        go_enter Try.func19, Try.ntmps19
        go_wp2_with fail
        rw [← HW.out]
        refine (l06Is_any n xs ys _ _ _ _ _ _ _ hl hm H.out H'.out).mono ?_
        rw [F.out]
        rintro e w1 ⟨rfl, hb⟩
        have B1 := Lib.hid (HB.out.trans (hb.mono HB.out.size))
        have A1 := Lib.hid (HN.out.keep hb (Nat.le_refl _))
        have M1 := Lib.hid (MO.out.keep hb)
        have HF1 := Lib.hid (HF.out.keep hb (Nat.le_refl _))
        have X1 := Lib.hid (X.out.keep hb)
        clear hb
        go_wp2_with fail
        refine (l02Is_any _ _ _ _ _ hz A1.out).mono ?_
        rw [F2.out]
        rintro e w' ⟨rfl, rfl⟩
        obtain ⟨lt, x0, x1, x2⟩ := X1.out
        go_wp2_with fail
        refine (l05World_any n m _ _ _ _ hn0 hn30).mono ?_
        rw [FW.out]
        rintro e w2 ⟨rfl, hb⟩
        have B2 := Lib.hid (B1.out.trans (hb.mono B1.out.size))
        have M2 := Lib.hid (M1.out.keep hb)
        have HF2 := Lib.hid (HF1.out.keep hb (Nat.le_refl _))
        clear x0 x1 x2
        obtain ⟨lt', x0, x1, x2⟩ := X1.out.keep hb
        clear hb
        go_wp2_with fail
        refine (T.out n xs ys a cap b d _ _ _ _ _ hz M2.out HF2.out).mono ?_
        rintro e w3 ⟨rfl, hb⟩
        have B3 := Lib.hid (B2.out.trans (hb.mono B2.out.size))
        clear hb x0 x1 x2
        go_wp2_with (go_at_call 52; refine (l01Bit_any _ _ _ hm0 hm1).mono ?_; rintro e w' ⟨rfl, rfl⟩)
        go_ret2
        exact ⟨E.out, B3.out⟩

set_option maxHeartbeats 1000000 in
theorem implIsTrueAt_v (n : Int) (xs ys : List Int) (m : Int) (zs : List Nd) (v : Value) (lo hi : Nat) (v' : Value) (lo' hi' : Nat) (w : World) (hl : xs.length ≤ 1048576) (hm : ys.length ≤ 1048576) (hz : zs.length ≤ 1048576) (h : InM w lo hi v n xs ys) (h' : InN w lo' hi' v' zs) :
    Calls Try.prog 20 #[v, .int .i64 m, v'] w fun e w' => e = .returned (.tuple #[.bool (taV n xs ys m zs), .int .i64 (taC (mdC (isM n xs ys) (isB zs zs.length)) n m)]) ∧ Below w.heap.size w w' := by
  obtain ⟨a, cap, b, d, rfl, hat, hat', -⟩ := h.at
  obtain ⟨c, cp, rfl, hn, hc1, hc2⟩ := h'.at'
  obtain ⟨W, hW, hb0, hx, hWs⟩ := boxM (w := w) n a xs.length cap b ys.length d 34
  have HB := Lib.hid hb0
  have X := Lib.hid hx
  have H := Lib.hid (hat.keep hb0 (Nat.le_refl _))
  have H' := Lib.hid (hat'.keep hb0 (Nat.le_refl _))
  have HN := Lib.hid (hn.keep hb0 (Nat.le_refl _))
  have HW := Lib.hid hW
  have CK := Lib.hid (show ∀ (t : TypeId) (C : Nat), C = W.heap.size → Calls Try.prog 48 #[.agg #[.int .i64 n, .slice a xs.length cap, .slice b ys.length d], .slice (some ⟨C, 0, none⟩) 1 1] (W.alloc (.cells #[.slice c zs.length cp] t)) fun e w' => e = .returned (.int .i64 (mdC (isM n xs ys) (isB zs zs.length))) ∧ Below W.heap.size W w' from fun t C hC => by
    have b1 : Below W.heap.size W (W.alloc (.cells #[.slice c zs.length cp] t)) := (alloc_keep _ _).1
    refine (checkModel_any n xs ys a _ cap b _ d [zs] (some ⟨C, 0, none⟩) 1 1 _ hl hm (by omega) (nthL_le1 hz) (H.out.keep b1 (Nat.le_refl _)) (H'.out.keep b1 (Nat.le_refl _)) (lay1 HN.out t hC)).mono ?_
    rintro e w' ⟨rfl, hb⟩
    exact ⟨by rw [okAll_1], b1.trans (hb.mono b1.size)⟩)
  clear h h' hb0 hx hW hat hat' hn
  cases hb : (isM n xs ys && isB zs zs.length)
  · have E := Lib.hid (ta_no (m := m) (n := n) (xs := xs) (ys := ys) (zs := zs) rfl rfl hb)
    have C := Lib.hid (show mdC (isM n xs ys) (isB zs zs.length) = 1 by rw [mdC, hb]; rfl)
    clear hb
    go_enter Try.func20, Try.ntmps20
    go_wp2_with fail
    rw [← HW.out]
    refine (CK.out _ _ hWs.symm).mono ?_
    rw [C.out]
    rintro e w1 ⟨rfl, hb⟩
    have B1 := Lib.hid (HB.out.trans (hb.mono HB.out.size))
    clear hb
    go_wp2
    go_ret2
    exact ⟨by rw [← C.out]; exact C.out ▸ E.out, B1.out⟩
  · have C := Lib.hid (show mdC (isM n xs ys) (isB zs zs.length) = 0 by rw [mdC, hb]; rfl)
    rw [Bool.and_eq_true] at hb
    obtain ⟨h1, h2⟩ := hb
    obtain ⟨e1, e2, -⟩ := isM_rel h1
    have hn0 : 0 ≤ n := by omega
    have hn30 : n ≤ 30 := by omega
    clear e1 e2
    cases hw : wlB n m
    · have E := Lib.hid (ta_out h1 h2 hw)
      have FW := Lib.hid hw
      clear h1 h2 hw
      rw [C.out] at E
      go_enter Try.func20, Try.ntmps20
      go_wp2_with fail
      rw [← HW.out]
      refine (CK.out _ _ hWs.symm).mono ?_
      rw [C.out]
      rintro e w1 ⟨rfl, hb⟩
      have B1 := Lib.hid (HB.out.trans (hb.mono HB.out.size))
      obtain ⟨lt, x0, x1, x2⟩ := X.out.keep hb
      clear hb
      go_wp2_with (go_at_call 53; refine (isBelow_any _ _ _).mono ?_; rw [FW.out]; rintro e w' ⟨rfl, rfl⟩)
      go_ret2
      exact ⟨C.out ▸ E.out, B1.out⟩
    · have E := Lib.hid (ta_ok h1 h2 hw)
      have FW := Lib.hid hw
      have hm0 : 0 ≤ m := by simp [wlB] at hw; omega
      have hm1 : m ≤ 30 := by simp [wlB] at hw; omega
      clear hw
      obtain ⟨f1, -, -⟩ := toFm_of h2
      obtain ⟨b2, off, rfl, hF⟩ := HN.out.formula h2 hc1 hc2
      have HF := Lib.hid hF
      have T := Lib.hid (truth_any (toFm zs) f1)
      have MO := Lib.hid (Mo.of h1 H.out H'.out)
      clear h1 h2 hF f1
      rw [C.out] at E
      go_enter Try.func20, Try.ntmps20
      go_wp2_with fail
      rw [← HW.out]
      refine (CK.out _ _ hWs.symm).mono ?_
      rw [C.out]
      rintro e w1 ⟨rfl, hb⟩
      have B1 := Lib.hid (HB.out.trans (hb.mono HB.out.size))
      have M1 := Lib.hid (MO.out.keep hb)
      have HF1 := Lib.hid (HF.out.keep hb (Nat.le_refl _))
      obtain ⟨lt, x0, x1, x2⟩ := X.out.keep hb
      clear hb
      go_wp2_with (go_at_call 53; refine (isBelow_any _ _ _).mono ?_; rw [FW.out]; rintro e w' ⟨rfl, rfl⟩)
      refine (T.out n xs ys a cap b d _ _ _ _ _ hz M1.out HF1.out).mono ?_
      rintro e w2 ⟨rfl, hb⟩
      have B2 := Lib.hid (B1.out.trans (hb.mono B1.out.size))
      clear hb x0 x1 x2
      go_wp2_with (go_at_call 54; refine (hasMember_any _ _ _ hm0 hm1).mono ?_; rintro e w' ⟨rfl, rfl⟩)
      go_ret2
      exact ⟨C.out ▸ E.out, B2.out⟩

end Go.Proofs.Ytomldealpmohhaa
