/- Contracts of IsTrueIn of the model and of the program, at every argument. Conditions: those in the theorems. -/
import Derived.Test.YtomldealpmohhaaTrV
import Derived.Test.YtomldealpmohhaaTrM
namespace Go.Proofs.Ytomldealpmohhaa
open Go.RowKit

noncomputable def tiV (n : Int) (xs ys : List Int) (zs : List Nd) : Bool := if mdC (isM n xs ys) (isB zs zs.length) = 0 then (toFm zs).tr xs ys == full n else false
theorem ti_ok {n : Int} {xs ys : List Int} {zs : List Nd} (h1 : isM n xs ys = true) (h2 : isB zs zs.length = true) : Ending.returned (.tuple #[.bool ((toFm zs).tr xs ys == full n), .int .i64 0]) = .returned (.tuple #[.bool (tiV n xs ys zs), .int .i64 (mdC (isM n xs ys) (isB zs zs.length))]) := by rw [tiV, h1, h2]; rfl
theorem ti_no {n : Int} {xs ys : List Int} {zs : List Nd} {b1 b2 : Bool} (h : isM n xs ys = b1) (h' : isB zs zs.length = b2) (hb : (b1 && b2) = false) : Ending.returned (.tuple #[.bool false, .int .i64 1]) = .returned (.tuple #[.bool (tiV n xs ys zs), .int .i64 (mdC (isM n xs ys) (isB zs zs.length))]) := by rw [tiV, h, h', mdC, hb]; rfl

set_option maxHeartbeats 2000000 in
set_option maxRecDepth 100000 in
theorem specIsTrueIn_v (n : Int) (xs ys : List Int) (zs : List Nd) (v : Value) (lo hi : Nat) (v' : Value) (lo' hi' : Nat) (w : World) (hl : xs.length ≤ 1048576) (hm : ys.length ≤ 1048576) (hz : zs.length ≤ 1048576) (h : InM w lo hi v n xs ys) (h' : InN w lo' hi' v' zs) :
    Calls Try.prog 21 #[v, v'] w fun e w' => e = .returned (.tuple #[.bool (tiV n xs ys zs), .int .i64 (mdC (isM n xs ys) (isB zs zs.length))]) ∧ Below w.heap.size w w' := by
  obtain ⟨a, cap, b, d, rfl, hat, hat', -⟩ := h.at
  obtain ⟨c, cp, rfl, hn, hc1, hc2⟩ := h'.at'
  obtain ⟨W, hW, hb0, hx, hWs⟩ := boxM (w := w) n a xs.length cap b ys.length d 34
  have HB := Lib.hid hb0
  have X := Lib.hid hx
  have H := Lib.hid (hat.keep hb0 (Nat.le_refl _))
  have H' := Lib.hid (hat'.keep hb0 (Nat.le_refl _))
  have HN := Lib.hid (hn.keep hb0 (Nat.le_refl _))
  have HW := Lib.hid hW
  clear h h' hb0 hx hW hat hat' hn
  cases h1 : isM n xs ys
  · have F := Lib.hid h1
    have E := Lib.hid (ti_no (zs := zs) h1 rfl rfl)
    rw [h1] at E
    clear h1
    go_enter Try.func21, Try.ntmps21
    go_wp2_with fail
    rw [← HW.out]
    refine (l06Is_any n xs ys _ _ _ _ _ _ _ hl hm H.out H'.out).mono ?_
    rw [F.out]
    rintro e w1 ⟨rfl, hb⟩
    have B1 := Lib.hid (HB.out.trans (hb.mono HB.out.size))
    clear hb
    go_wp2
    go_ret2
    exact ⟨E.out, B1.out⟩
  · have F := Lib.hid h1
    cases h2 : isB zs zs.length
    · have F2 := Lib.hid h2
      have E := Lib.hid (ti_no h1 h2 rfl)
      rw [h1, h2] at E
      clear h1 h2
      go_enter Try.func21, Try.ntmps21
      go_wp2_with fail
      rw [← HW.out]
      refine (l06Is_any n xs ys _ _ _ _ _ _ _ hl hm H.out H'.out).mono ?_
      rw [F.out]
      rintro e w1 ⟨rfl, hb⟩
      have B1 := Lib.hid (HB.out.trans (hb.mono HB.out.size))
      have A1 := Lib.hid (HN.out.keep hb (Nat.le_refl _))
      clear hb
      go_wp2_with fail
      refine (l02Is_any _ _ _ _ _ hz A1.out).mono ?_
      rw [F2.out]
      rintro e w' ⟨rfl, rfl⟩
      go_wp2
      go_ret2
      exact ⟨E.out, B1.out⟩
    · have F2 := Lib.hid h2
      obtain ⟨e1, e2, -⟩ := isM_rel h1
      have hn0 : 0 ≤ n := by omega
      have hn30 : n ≤ 30 := by omega
      clear e1 e2
      have E := Lib.hid (ti_ok h1 h2)
      obtain ⟨f1, -, -⟩ := toFm_of h2
      obtain ⟨b2, off, rfl, hF⟩ := HN.out.formula h2 hc1 hc2
      have HF := Lib.hid hF
      obtain ⟨y, hy⟩ : ∃ y, y = (toFm zs).tr xs ys := ⟨_, rfl⟩
      have MO := Lib.hid (Mo.of h1 H.out H'.out)
      have T := Lib.hid (show ∀ w1 : World, Below W.heap.size W w1 → Calls Try.prog 46 #[.agg #[.int .i64 n, .slice a xs.length cap, .slice b ys.length d], .slice (some ⟨b2, off, none⟩) zs.length cp] w1 fun e w' => e = .returned (.int .i64 y) ∧ Below w1.heap.size w1 w' from
        fun w1 hw => by rw [hy]; exact l06Truth_any (toFm zs) f1 n xs ys a cap b d b2 off zs.length cp w1 hz (MO.out.keep hw) (HF.out.keep hw (Nat.le_refl _)))
      rw [F.out, F2.out, ← hy] at E
      obtain ⟨q, hq⟩ : ∃ q : Bool, q = (y == full n) := ⟨_, rfl⟩
      rw [← hq] at E
      have HQ := Lib.hid hq
      clear h1 h2 hF f1 hy hq
      go_enter Try.func21, Try.ntmps21
      go_wp2_with fail
      rw [← HW.out]
      refine (l06Is_any n xs ys _ _ _ _ _ _ _ hl hm H.out H'.out).mono ?_
      rw [F.out]
      rintro e w1 ⟨rfl, hb⟩
      have T1 := Lib.hid hb
      have A1 := Lib.hid (HN.out.keep hb (Nat.le_refl _))
      obtain ⟨lt, x0, x1, x2⟩ := X.out.keep hb
      clear hb
      go_wp2_with fail
      refine (l02Is_any _ _ _ _ _ hz A1.out).mono ?_
      rw [F2.out]
      rintro e w' ⟨rfl, rfl⟩
      go_wp2
      go_region_held3 (fun w' => w'.cell? ⟨w.heap.size, 0, none⟩ = some (.int .i64 n) ∧ w'.cell? ⟨w.heap.size, 1, none⟩ = some (.slice a xs.length cap) ∧ w'.cell? ⟨w.heap.size, 2, none⟩ = some (.slice b ys.length d)) (first | exact ⟨z0, z1, z2⟩ | exact ⟨y0, y1, y2⟩ | exact ⟨x0, x1, x2⟩ | go_keep) (first | (go_at_call 46; refine (T.out _ T1.out.drew).mono ?_; rintro e w2 ⟨rfl, hb⟩; have T2 := Lib.hid (show Below W.heap.size W w2 from T1.out.trans ((below_of_drew hb).mono T1.out.size)); clear hb; obtain ⟨ly, y0, y1, y2⟩ := X.out.keep T2.out) | (go_at_call 55; refine (l01Full_any _ _ hn0 hn30).mono ?_; rintro e w' ⟨rfl, rfl⟩))
      all_goals
        go_wp2
        go_ret2
        exact ⟨by rw [← HQ.out]; exact E.out, HB.out.trans (T2.out.mono HB.out.size)⟩

set_option maxHeartbeats 1000000 in
theorem implIsTrueIn_v (n : Int) (xs ys : List Int) (zs : List Nd) (v : Value) (lo hi : Nat) (v' : Value) (lo' hi' : Nat) (w : World) (hl : xs.length ≤ 1048576) (hm : ys.length ≤ 1048576) (hz : zs.length ≤ 1048576) (h : InM w lo hi v n xs ys) (h' : InN w lo' hi' v' zs) :
    Calls Try.prog 22 #[v, v'] w fun e w' => e = .returned (.tuple #[.bool (tiV n xs ys zs), .int .i64 (mdC (isM n xs ys) (isB zs zs.length))]) ∧ Below w.heap.size w w' := by
  obtain ⟨a, cap, b, d, rfl, hat, hat', -⟩ := h.at
  obtain ⟨c, cp, rfl, hn, hc1, hc2⟩ := h'.at'
  obtain ⟨W, hW, hb0, hx, hWs⟩ := boxM (w := w) n a xs.length cap b ys.length d 34
  have HB := Lib.hid hb0
  have X := Lib.hid hx
  have H := Lib.hid (hat.keep hb0 (Nat.le_refl _))
  have H' := Lib.hid (hat'.keep hb0 (Nat.le_refl _))
  have HN := Lib.hid (hn.keep hb0 (Nat.le_refl _))
  have HW := Lib.hid hW
  have CK := Lib.hid (show ∀ (t : TypeId) (C : Nat), C = W.heap.size → Calls Try.prog 48 #[.agg #[.int .i64 n, .slice a xs.length cap, .slice b ys.length d], .slice (some ⟨C, 0, none⟩) 1 1] (W.alloc (.cells #[.slice c zs.length cp] t)) fun e w' => e = .returned (.int .i64 (mdC (isM n xs ys) (isB zs zs.length))) ∧ Below W.heap.size W w' from fun t C hC => by
    have b1 : Below W.heap.size W (W.alloc (.cells #[.slice c zs.length cp] t)) := (alloc_keep _ _).1
    refine (checkModel_any n xs ys a _ cap b _ d [zs] (some ⟨C, 0, none⟩) 1 1 _ hl hm (by omega) (nthL_le1 hz) (H.out.keep b1 (Nat.le_refl _)) (H'.out.keep b1 (Nat.le_refl _)) (lay1 HN.out t hC)).mono ?_
    rintro e w' ⟨rfl, hb⟩
    exact ⟨by rw [okAll_1], b1.trans (hb.mono b1.size)⟩)
  clear h h' hb0 hx hW hat hat' hn
  cases hb : (isM n xs ys && isB zs zs.length)
  · have E := Lib.hid (ti_no (n := n) (xs := xs) (ys := ys) (zs := zs) rfl rfl hb)
    have C := Lib.hid (show mdC (isM n xs ys) (isB zs zs.length) = 1 by rw [mdC, hb]; rfl)
    clear hb
    go_enter Try.func22, Try.ntmps22
    go_wp2_with fail
    rw [← HW.out]
    refine (CK.out _ _ hWs.symm).mono ?_
    rw [C.out]
    rintro e w1 ⟨rfl, hb⟩
    have B1 := Lib.hid (HB.out.trans (hb.mono HB.out.size))
    clear hb
    go_wp2
    go_ret2
    exact ⟨by rw [← C.out]; exact C.out ▸ E.out, B1.out⟩
  · have C := Lib.hid (show mdC (isM n xs ys) (isB zs zs.length) = 0 by rw [mdC, hb]; rfl)
    rw [Bool.and_eq_true] at hb
    obtain ⟨h1, h2⟩ := hb
    obtain ⟨e1, e2, e3, e4⟩ := isM_rel h1
    have E := Lib.hid (ti_ok h1 h2)
    have EQ := Lib.hid (show ((toFm zs).tr xs ys == full n) = (bits .andNot .i64 (full n) ((toFm zs).tr xs ys) == 0) by rw [e1]; exact full_iff (by omega) (tr_in (by omega) e3 e4 _))
    clear e1 e2 e3 e4
    obtain ⟨f1, -, -⟩ := toFm_of h2
    obtain ⟨b2, off, rfl, hF⟩ := HN.out.formula h2 hc1 hc2
    have HF := Lib.hid hF
    have T := Lib.hid (falsity_any (toFm zs) f1)
    have MO := Lib.hid (Mo.of h1 H.out H'.out)
    obtain ⟨y, hy⟩ : ∃ y, y = bits .andNot .i64 (full n) ((toFm zs).tr xs ys) := ⟨_, rfl⟩
    obtain ⟨q, hq⟩ : ∃ q : Bool, q = (y == 0) := ⟨_, rfl⟩
    rw [C.out, EQ.out, ← hy, ← hq] at E
    have HY := Lib.hid hy
    have HQ := Lib.hid hq
    clear h1 h2 hF f1 hy hq
    go_enter Try.func22, Try.ntmps22
    go_wp2_with fail
    rw [← HW.out]
    refine (CK.out _ _ hWs.symm).mono ?_
    rw [C.out]
    rintro e w1 ⟨rfl, hb⟩
    have B1 := Lib.hid (HB.out.trans (hb.mono HB.out.size))
    have M1 := Lib.hid (MO.out.keep hb)
    have HF1 := Lib.hid (HF.out.keep hb (Nat.le_refl _))
    obtain ⟨lt, x0, x1, x2⟩ := X.out.keep hb
    clear hb
    go_wp2_with fail
    refine (T.out n xs ys a cap b d _ _ _ _ _ hz M1.out HF1.out).mono ?_
    rw [← HY.out]
    rintro e w2 ⟨rfl, hb⟩
    have B2 := Lib.hid (B1.out.trans (hb.mono B1.out.size))
    clear hb x0 x1 x2
    go_wp2
    go_ret2
    exact ⟨by rw [← HQ.out]; exact C.out ▸ E.out, B2.out⟩

end Go.Proofs.Ytomldealpmohhaa
