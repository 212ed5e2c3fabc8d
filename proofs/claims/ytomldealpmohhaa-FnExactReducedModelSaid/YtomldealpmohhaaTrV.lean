/- Contracts of TruthSet, IsTrueAt and IsTrueIn of the model and of the program, at every argument. Conditions: those in the theorems. -/
import Derived.Test.YtomldealpmohhaaTrP
import Derived.Test.YtomldealpmohhaaJn17
namespace Go.Proofs.Ytomldealpmohhaa
open Go.RowKit

def mdC (b1 b2 : Bool) : Int := if b1 && b2 then 0 else 1

set_option maxHeartbeats 1000000 in
theorem checkModel_any (n : Int) (xs ys : List Int) (a : Option Addr) (len cap : Nat) (b : Option Addr) (m d : Nat) (zss : List (List Nd)) (c : Option Addr) (l cl : Nat) (w : World) (hl : len ≤ 1048576) (hm : m ≤ 1048576) (hz : l ≤ 2097152) (hi : ∀ j, j < l → (nthL zss j).length ≤ 1048576) (h : At w a len xs) (h' : At w b m ys) (h'' : AtNN w c l zss) :
    Calls Try.prog 48 #[.agg #[.int .i64 n, .slice a len cap, .slice b m d], .slice c l cl] w fun e w' => e = .returned (.int .i64 (mdC (isM n xs ys) (okAll zss l))) ∧ Below w.heap.size w w' := by
  obtain ⟨W, hW, hb0, hx, hWs⟩ := boxM (w := w) n a len cap b m d 34
  have HB := Lib.hid hb0
  have H := Lib.hid (h.keep hb0 (Nat.le_refl _))
  have H' := Lib.hid (h'.keep hb0 (Nat.le_refl _))
  have H2 := Lib.hid (h''.keep hb0 (Nat.le_refl _))
  have HI := Lib.hid hi
  have HW := Lib.hid hW
  clear h h' h'' hb0 hx hW hi
  cases h1 : isM n xs ys
  · have F := Lib.hid h1
    clear h1
    go_enter Try.func48, Try.ntmps48
    go_wp2_with fail
    rw [← HW.out]
    refine (implIsModel_any n xs ys _ _ _ _ _ _ _ hl hm H.out H'.out).mono ?_
    rw [F.out]
    rintro e w1 ⟨rfl, hb⟩
    have B1 := Lib.hid (HB.out.trans (hb.mono HB.out.size))
    clear hb
    go_wp2
    go_ret
    exact ⟨rfl, B1.out⟩
  · have F := Lib.hid h1
    cases h2 : okAll zss l
    all_goals
      have F2 := Lib.hid h2
      clear h2
      go_enter Try.func48, Try.ntmps48
      go_wp2_with fail
      rw [← HW.out]
      refine (implIsModel_any n xs ys _ _ _ _ _ _ _ hl hm H.out H'.out).mono ?_
      rw [F.out]
      rintro e w1 ⟨rfl, hb⟩
      have B1 := Lib.hid (HB.out.trans (hb.mono HB.out.size))
      have A1 := Lib.hid (H2.out.keep hb (Nat.le_refl _))
      clear hb
      go_wp2_with fail
      refine (areF_any zss _ _ _ _ hz HI.out A1.out).mono ?_
      rw [F2.out]
      rintro e w2 ⟨rfl, hb⟩
      have B2 := Lib.hid (B1.out.trans (hb.mono B1.out.size))
      clear hb
      go_wp2
      go_ret
      exact ⟨rfl, B2.out⟩

set_option maxHeartbeats 400000 in
theorem truth_any (f : Fm) (hf : f.ok) (n : Int) (xs ys : List Int) (a : Option Addr) (cap : Nat) (a' : Option Addr) (cap' : Nat) (b off len cp : Nat) (w : World) (hl : len ≤ 1048576) (hm : Mo w n a a' xs ys) (h : AtF w b off len cp f) :
    Calls Try.prog 49 #[.agg #[.int .i64 n, .slice a xs.length cap, .slice a' ys.length cap'], .slice (some ⟨b, off, none⟩) len cp] w fun e w' => e = .returned (.int .i64 (f.tr xs ys)) ∧ Below w.heap.size w w' := by
  obtain ⟨W, hW, hb0, hx, hWs⟩ := boxM (w := w) n a xs.length cap a' ys.length cap' 34
  have HB := Lib.hid hb0
  have T := truthAt_any f hf n xs ys a cap a' cap' f.enc b off len cp 0 [] W hl (hm.keep hb0) (h.1.keep hb0 (Nat.le_refl _)) (by simp)
  obtain ⟨en, hen⟩ : ∃ en : Int, en = ((0 + f.sz : Nat) : Int) := ⟨_, rfl⟩
  rw [← hen] at T
  have T1 := Lib.hid T
  have HW := Lib.hid hW
  clear h hm hb0 hx hW T hen
  go_enter Try.func49, Try.ntmps49
  go_wp2_with fail
  rw [← HW.out]
  refine T1.out.mono ?_
  rintro e w1 ⟨rfl, hb⟩
  have B1 := Lib.hid (HB.out.trans (hb.mono HB.out.size))
  clear hb
  go_wp2
  go_ret
  exact ⟨rfl, B1.out⟩

set_option maxHeartbeats 2000000 in
set_option maxRecDepth 100000 in
theorem falsity_any (f : Fm) (hf : f.ok) (n : Int) (xs ys : List Int) (a : Option Addr) (cap : Nat) (a' : Option Addr) (cap' : Nat) (b off len cp : Nat) (w : World) (hl : len ≤ 1048576) (hm : Mo w n a a' xs ys) (h : AtF w b off len cp f) :
    Calls Try.prog 56 #[.agg #[.int .i64 n, .slice a xs.length cap, .slice a' ys.length cap'], .slice (some ⟨b, off, none⟩) len cp] w fun e w' => e = .returned (.int .i64 (bits .andNot .i64 (full n) (f.tr xs ys))) ∧ Below w.heap.size w w' := by
  obtain ⟨W, hW, hb0, hx, hWs⟩ := boxM (w := w) n a xs.length cap a' ys.length cap' 34
  have HB := Lib.hid hb0
  have X := Lib.hid hx
  have T := Lib.hid (show ∀ w1 : World, Below W.heap.size W w1 → _ from fun w1 hw => truth_any f hf n xs ys a cap a' cap' b off len cp w1 hl ((hm.keep hb0).keep hw) ((h.keep hb0 (Nat.le_refl _)).keep hw (Nat.le_refl _)))
  obtain ⟨hn, h8, -⟩ := hm
  have hn0 : 0 ≤ n := by omega
  have hn30 : n ≤ 30 := by omega
  obtain ⟨lt, x0, x1, x2⟩ := hx
  have HW := Lib.hid hW
  clear h hb0 hW hn h8
  go_enter Try.func56, Try.ntmps56
  go_wp2
  rw [← HW.out]
  go_region_held3 (fun w' => w'.cell? ⟨w.heap.size, 0, none⟩ = some (.int .i64 n) ∧ w'.cell? ⟨w.heap.size, 1, none⟩ = some (.slice a xs.length cap) ∧ w'.cell? ⟨w.heap.size, 2, none⟩ = some (.slice a' ys.length cap')) (first | exact ⟨z0, z1, z2⟩ | exact ⟨y0, y1, y2⟩ | exact ⟨x0, x1, x2⟩ | go_keep) (first | (go_at_call 97; refine (allWorlds_any n _ _ _ _ hn0 hn30).mono ?_; rintro e w1 ⟨rfl, hb⟩; have T1 := Lib.hid (show Below W.heap.size W w1 from below_of_drew hb); clear hb; obtain ⟨ly, y0, y1, y2⟩ := X.out.keep T1.out) | (go_at_call 49; refine (T.out _ T1.out).mono ?_; rintro e w2 ⟨rfl, hb⟩; have T2 := Lib.hid (show Below W.heap.size W w2 from T1.out.trans (hb.mono T1.out.size)); clear hb; obtain ⟨lz, z0, z1, z2⟩ := X.out.keep T2.out))
  all_goals
    go_wp2
    go_ret
    exact ⟨rfl, HB.out.trans (T2.out.mono HB.out.size)⟩

/-! TruthSet -/
noncomputable def tsV (n : Int) (xs ys : List Int) (zs : List Nd) : Int := if mdC (isM n xs ys) (isB zs zs.length) = 0 then (toFm zs).tr xs ys else 0
theorem ts_ok {n : Int} {xs ys : List Int} {zs : List Nd} (h1 : isM n xs ys = true) (h2 : isB zs zs.length = true) : Ending.returned (.tuple #[.int .i64 ((toFm zs).tr xs ys), .int .i64 0]) = .returned (.tuple #[.int .i64 (tsV n xs ys zs), .int .i64 (mdC (isM n xs ys) (isB zs zs.length))]) := by rw [tsV, h1, h2]; rfl
theorem ts_no {n : Int} {xs ys : List Int} {zs : List Nd} {b1 b2 : Bool} (h : isM n xs ys = b1) (h' : isB zs zs.length = b2) (hb : (b1 && b2) = false) : Ending.returned (.tuple #[.int .i64 0, .int .i64 1]) = .returned (.tuple #[.int .i64 (tsV n xs ys zs), .int .i64 (mdC (isM n xs ys) (isB zs zs.length))]) := by rw [tsV, h, h', mdC, hb]; rfl

set_option maxHeartbeats 1000000 in
theorem specTruthSet_v (n : Int) (xs ys : List Int) (zs : List Nd) (v : Value) (lo hi : Nat) (v' : Value) (lo' hi' : Nat) (w : World) (hl : xs.length ≤ 1048576) (hm : ys.length ≤ 1048576) (hz : zs.length ≤ 1048576) (h : InM w lo hi v n xs ys) (h' : InN w lo' hi' v' zs) :
    Calls Try.prog 13 #[v, v'] w fun e w' => e = .returned (.tuple #[.int .i64 (tsV n xs ys zs), .int .i64 (mdC (isM n xs ys) (isB zs zs.length))]) ∧ Below w.heap.size w w' := by
  obtain ⟨a, cap, b, d, rfl, hat, hat', -⟩ := h.at
  obtain ⟨c, cp, rfl, hn, hc1, hc2⟩ := h'.at'
  obtain ⟨W, hW, hb0, hx, hWs⟩ := boxM (w := w) n a xs.length cap b ys.length d 34
  have HB := Lib.hid hb0
  have X := Lib.hid hx
  have H := Lib.hid (hat.keep hb0 (Nat.le_refl _))
  have H' := Lib.hid (hat'.keep hb0 (Nat.le_refl _))
  have HN := Lib.hid (hn.keep hb0 (Nat.le_refl _))
  have HW := Lib.hid hW
  clear h h' hb0 hx hW hat hat' hn
  cases h1 : isM n xs ys
  · have F := Lib.hid h1
    have E := Lib.hid (ts_no (zs := zs) h1 rfl rfl)
    rw [h1] at E
    clear h1
    go_enter Try.func13, Try.ntmps13
    go_wp2_with fail
    rw [← HW.out]
    refine (l06Is_any n xs ys _ _ _ _ _ _ _ hl hm H.out H'.out).mono ?_
    rw [F.out]
    rintro e w1 ⟨rfl, hb⟩
    have B1 := Lib.hid (HB.out.trans (hb.mono HB.out.size))
    clear hb
    go_wp2
    go_ret2
    exact ⟨E.out, B1.out⟩
  · have F := Lib.hid h1
    cases h2 : isB zs zs.length
    · have F2 := Lib.hid h2
      have E := Lib.hid (ts_no h1 h2 rfl)
      rw [h1, h2] at E
      clear h1 h2
      go_enter Try.func13, Try.ntmps13
      go_wp2_with fail
      rw [← HW.out]
      refine (l06Is_any n xs ys _ _ _ _ _ _ _ hl hm H.out H'.out).mono ?_
      rw [F.out]
      rintro e w1 ⟨rfl, hb⟩
      have B1 := Lib.hid (HB.out.trans (hb.mono HB.out.size))
      have A1 := Lib.hid (HN.out.keep hb (Nat.le_refl _))
      clear hb
      go_wp2_with fail
      refine (l02Is_any _ _ _ _ _ hz A1.out).mono ?_
      rw [F2.out]
      rintro e w' ⟨rfl, rfl⟩
      go_wp2
      go_ret2
      exact ⟨E.out, B1.out⟩
    · have F2 := Lib.hid h2
      have E := Lib.hid (ts_ok h1 h2)
      rw [h1, h2] at E
      obtain ⟨f1, -, -⟩ := toFm_of h2
      obtain ⟨b2, off, rfl, hF⟩ := HN.out.formula h2 hc1 hc2
      have HF := Lib.hid hF
      have T := Lib.hid (l06Truth_any (toFm zs) f1)
      have MO := Lib.hid (Mo.of h1 H.out H'.out)
      clear h1 h2 hF f1
      go_enter Try.func13, Try.ntmps13
      go_wp2_with fail
      rw [← HW.out]
      refine (l06Is_any n xs ys _ _ _ _ _ _ _ hl hm H.out H'.out).mono ?_
      rw [F.out]
      rintro e w1 ⟨rfl, hb⟩
      have B1 := Lib.hid (HB.out.trans (hb.mono HB.out.size))
      have A1 := Lib.hid (HN.out.keep hb (Nat.le_refl _))
      have M1 := Lib.hid (MO.out.keep hb)
      have HF1 := Lib.hid (HF.out.keep hb (Nat.le_refl _))
      obtain ⟨lt, x0, x1, x2⟩ := X.out.keep hb
      clear hb
      go_wp2_with fail
      refine (l02Is_any _ _ _ _ _ hz A1.out).mono ?_
      rw [F2.out]
      rintro e w' ⟨rfl, rfl⟩
      go_wp2_with fail
      refine (T.out n xs ys a cap b d _ _ _ _ _ hz M1.out HF1.out).mono ?_
      rintro e w2 ⟨rfl, hb⟩
      have B2 := Lib.hid (B1.out.trans (hb.mono B1.out.size))
      clear hb x0 x1 x2
      go_wp2
      go_ret2
      exact ⟨E.out, B2.out⟩

set_option maxHeartbeats 1000000 in
theorem implTruthSet_v (n : Int) (xs ys : List Int) (zs : List Nd) (v : Value) (lo hi : Nat) (v' : Value) (lo' hi' : Nat) (w : World) (hl : xs.length ≤ 1048576) (hm : ys.length ≤ 1048576) (hz : zs.length ≤ 1048576) (h : InM w lo hi v n xs ys) (h' : InN w lo' hi' v' zs) :
    Calls Try.prog 16 #[v, v'] w fun e w' => e = .returned (.tuple #[.int .i64 (tsV n xs ys zs), .int .i64 (mdC (isM n xs ys) (isB zs zs.length))]) ∧ Below w.heap.size w w' := by
  obtain ⟨a, cap, b, d, rfl, hat, hat', -⟩ := h.at
  obtain ⟨c, cp, rfl, hn, hc1, hc2⟩ := h'.at'
  obtain ⟨W, hW, hb0, hx, hWs⟩ := boxM (w := w) n a xs.length cap b ys.length d 34
  have HB := Lib.hid hb0
  have X := Lib.hid hx
  have H := Lib.hid (hat.keep hb0 (Nat.le_refl _))
  have H' := Lib.hid (hat'.keep hb0 (Nat.le_refl _))
  have HN := Lib.hid (hn.keep hb0 (Nat.le_refl _))
  have HW := Lib.hid hW
  have CK := Lib.hid (show ∀ (t : TypeId) (C : Nat), C = W.heap.size → Calls Try.prog 48 #[.agg #[.int .i64 n, .slice a xs.length cap, .slice b ys.length d], .slice (some ⟨C, 0, none⟩) 1 1] (W.alloc (.cells #[.slice c zs.length cp] t)) fun e w' => e = .returned (.int .i64 (mdC (isM n xs ys) (isB zs zs.length))) ∧ Below W.heap.size W w' from fun t C hC => by
    have b1 : Below W.heap.size W (W.alloc (.cells #[.slice c zs.length cp] t)) := (alloc_keep _ _).1
    refine (checkModel_any n xs ys a _ cap b _ d [zs] (some ⟨C, 0, none⟩) 1 1 _ hl hm (by omega) (nthL_le1 hz) (H.out.keep b1 (Nat.le_refl _)) (H'.out.keep b1 (Nat.le_refl _)) (lay1 HN.out t hC)).mono ?_
    rintro e w' ⟨rfl, hb⟩
    exact ⟨by rw [okAll_1], b1.trans (hb.mono b1.size)⟩)
  clear h h' hb0 hx hW hat hat' hn
  cases hb : (isM n xs ys && isB zs zs.length)
  · have E := Lib.hid (ts_no (n := n) (xs := xs) (ys := ys) (zs := zs) rfl rfl hb)
    have C := Lib.hid (show mdC (isM n xs ys) (isB zs zs.length) = 1 by rw [mdC, hb]; rfl)
    clear hb
    go_enter Try.func16, Try.ntmps16
    go_wp2_with fail
    rw [← HW.out]
    refine (CK.out _ _ hWs.symm).mono ?_
    rw [C.out]
    rintro e w1 ⟨rfl, hb⟩
    have B1 := Lib.hid (HB.out.trans (hb.mono HB.out.size))
    clear hb
    go_wp2
    go_ret2
    exact ⟨by rw [← C.out]; exact C.out ▸ E.out, B1.out⟩
  · have C := Lib.hid (show mdC (isM n xs ys) (isB zs zs.length) = 0 by rw [mdC, hb]; rfl)
    rw [Bool.and_eq_true] at hb
    obtain ⟨h1, h2⟩ := hb
    have E := Lib.hid (ts_ok h1 h2)
    obtain ⟨f1, -, -⟩ := toFm_of h2
    obtain ⟨b2, off, rfl, hF⟩ := HN.out.formula h2 hc1 hc2
    have HF := Lib.hid hF
    have T := Lib.hid (truth_any (toFm zs) f1)
    have MO := Lib.hid (Mo.of h1 H.out H'.out)
    clear h1 h2 hF f1
    go_enter Try.func16, Try.ntmps16
    go_wp2_with fail
    rw [← HW.out]
    refine (CK.out _ _ hWs.symm).mono ?_
    rw [C.out]
    rintro e w1 ⟨rfl, hb⟩
    have B1 := Lib.hid (HB.out.trans (hb.mono HB.out.size))
    have M1 := Lib.hid (MO.out.keep hb)
    have HF1 := Lib.hid (HF.out.keep hb (Nat.le_refl _))
    obtain ⟨lt, x0, x1, x2⟩ := X.out.keep hb
    clear hb
    go_wp2_with fail
    refine (T.out n xs ys a cap b d _ _ _ _ _ hz M1.out HF1.out).mono ?_
    rintro e w2 ⟨rfl, hb⟩
    have B2 := Lib.hid (B1.out.trans (hb.mono B1.out.size))
    clear hb x0 x1 x2
    go_wp2
    go_ret2
    exact ⟨C.out ▸ E.out, B2.out⟩

end Go.Proofs.Ytomldealpmohhaa
