/- PointsHold: the model's entry. Conditions: those in the theorems. -/
import Derived.Test.YtbfnagmjnaacoaaHoU
import Derived.Test.YtbfnagmjnaacoaaHoS
import Derived.Test.YtbfnagmjnaacoaaHpV
import Derived.Test.YtbfnagmjnaacoaaMrP
import Derived.Test.YtbfnagmjnaacoaaPoI
import Derived.Test.YtbfnagmjnaacoaaJn08
import Derived.Test.YtbfnagmjnaacoaaJn05
namespace Go.Proofs.Ytbfnagmjnaacoaa
open Go.RowKit

noncomputable def phC (n : Int) (xs ys : List Int) (ps : List Pd) (ls : List Int) : Int := if isM n xs ys && isP ps ps.length then (if decide (ls.length = 10) && mapB n ls ls.length then voC n.toNat (toPt ps) else 2) else 1
noncomputable def phV (n : Int) (xs ys : List Int) (ps : List Pd) (ls : List Int) : Bool := if isM n xs ys && isP ps ps.length then (if decide (ls.length = 10) && mapB n ls ls.length then voR xs ys n.toNat (toPt ps) ls else false) else false
theorem ph_no {n : Int} {xs ys : List Int} {ps : List Pd} {ls : List Int} (h : (isM n xs ys && isP ps ps.length) = false) : Ending.returned (.tuple #[.bool false, .int .i64 1]) = .returned (.tuple #[.bool (phV n xs ys ps ls), .int .i64 (phC n xs ys ps ls)]) := by
  rw [phV, phC, h]; rfl
theorem ph_out {n : Int} {xs ys : List Int} {ps : List Pd} {ls : List Int} (h : (isM n xs ys && isP ps ps.length) = true) (h2 : (decide (ls.length = 10) && mapB n ls ls.length) = false) : Ending.returned (.tuple #[.bool false, .int .i64 2]) = .returned (.tuple #[.bool (phV n xs ys ps ls), .int .i64 (phC n xs ys ps ls)]) := by
  rw [phV, phC, h, h2]; rfl
theorem ph_ok {n : Int} {xs ys : List Int} {ps : List Pd} {ls : List Int} (h : (isM n xs ys && isP ps ps.length) = true) (h2 : (decide (ls.length = 10) && mapB n ls ls.length) = true) : Ending.returned (.tuple #[.bool (voR xs ys n.toNat (toPt ps) ls), .int .i64 (voC n.toNat (toPt ps))]) = .returned (.tuple #[.bool (phV n xs ys ps ls), .int .i64 (phC n xs ys ps ls)]) := by
  rw [phV, phC, h, h2]; rfl
theorem mapB_all (n : Int) (ls : List Int) (k : Nat) : mapB n ls k = true ↔ ∀ i, i < k → wlB n (nth ls i) = true := by
  induction k with
  | zero => exact ⟨fun _ i hi => by omega, fun _ => rfl⟩
  | succ k ih =>
    rw [mapB, Bool.and_eq_true, ih]
    refine ⟨fun h i hi => ?_, fun h => ⟨fun i hi => h i (by omega), h k (by omega)⟩⟩
    by_cases e : i = k
    · rw [e]; exact h.2
    · exact h.1 i (by omega)
theorem wz_of {N : Nat} {ls : List Int} (h1 : ls.length = 10) (h2 : mapB N ls ls.length = true) : Wz N ls := by
  refine ⟨h1, fun _ i hi => ?_⟩
  have h3 := (mapB_all _ _ _).1 h2 i (by omega)
  rw [wlB, Bool.and_eq_true, decide_eq_true_eq, decide_eq_true_eq] at h3
  obtain ⟨q, hq⟩ := Int.eq_ofNat_of_zero_le h3.1
  exact ⟨q, by omega, hq⟩

theorem pos_of {N : Nat} {ls : List Int} (h1 : ls.length = 10) (h2 : mapB N ls ls.length = true) : N ≠ 0 := by
  have h3 := (mapB_all _ _ _).1 h2 0 (by omega)
  rw [wlB, Bool.and_eq_true, decide_eq_true_eq, decide_eq_true_eq] at h3
  omega

/-- The box of a model. -/
theorem box3 (w : World) (v0 v1 v2 : Value) (T : TypeId) : ∃ W, W = w.alloc (.cells #[v0, v1, v2] T) ∧ Hid (Below w.heap.size w W) ∧ W.heap.size = w.heap.size + 1 ∧
    Hid (∀ w1, Below W.heap.size W w1 → w1.cell? ⟨w.heap.size, 0, none⟩ = some v0 ∧ w1.cell? ⟨w.heap.size, 1, none⟩ = some v1 ∧ w1.cell? ⟨w.heap.size, 2, none⟩ = some v2) := by
  have hs : w.heap.size < (w.alloc (.cells #[v0, v1, v2] T)).heap.size := by simp
  refine ⟨_, rfl, Lib.hid ((Below.refl _ _).alloc (Nat.le_refl _) _), by simp, Lib.hid (fun w1 hb => ⟨?_, ?_, ?_⟩)⟩
  · exact (hb.cell (p := ⟨w.heap.size, 0, none⟩) hs).trans (World.cell?_alloc_new _ _ _ 0)
  · exact (hb.cell (p := ⟨w.heap.size, 1, none⟩) hs).trans (World.cell?_alloc_new _ _ _ 1)
  · exact (hb.cell (p := ⟨w.heap.size, 2, none⟩) hs).trans (World.cell?_alloc_new _ _ _ 2)

set_option maxHeartbeats 4000000 in
set_option maxRecDepth 100000 in
theorem specPointsHold_v (n : Int) (xs ys : List Int) (ps : List Pd) (ls : List Int) (v : Value) (lo hi : Nat) (v' : Value) (lo' hi' : Nat) (v2 : Value) (lo2 hi2 : Nat) (w : World) (hl : xs.length ≤ 1048576) (hm : ys.length ≤ 1048576) (hz : ps.length ≤ 1048576) (_hll : ls.length ≤ 1048576) (h : InM w lo hi v n xs ys) (h' : InP w lo' hi' v' ps) (h2 : OwnIn w lo2 hi2 v2 ls) :
    Calls Try.prog 15 #[v, v', v2] w fun e w' => e = .returned (.tuple #[.bool (phV n xs ys ps ls), .int .i64 (phC n xs ys ps ls)]) ∧ Below w.heap.size w w' := by
  obtain ⟨a, cap, b, d, rfl, hat, hat', -⟩ := h.at
  obtain ⟨c, cp, rfl, hn, hc1, hc2⟩ := h'.at'
  obtain ⟨al, cl, rfl, hatl⟩ := own_lst h2
  obtain ⟨W, hW, HB, hWs, X⟩ := box3 w (.int .i64 n) (.slice a xs.length cap) (.slice b ys.length d) 40
  have H := Lib.hid (hat.keep HB.out (Nat.le_refl _))
  have H' := Lib.hid (hat'.keep HB.out (Nat.le_refl _))
  have HN := Lib.hid (hn.keep HB.out (Nat.le_refl _))
  have HL := Lib.hid (hatl.keep HB.out (Nat.le_refl _))
  have HW := Lib.hid hW
  clear h h' h2 hW hat hat' hn hatl hWs
  cases h1 : isM n xs ys
  · have F := Lib.hid h1
    have E := Lib.hid (ph_no (ls := ls) (show (isM n xs ys && isP ps ps.length) = false by rw [h1]; rfl))
    clear h1
    go_enter Try.func15, Try.ntmps15
    go_wp2_with fail
    rw [← HW.out]
    obtain ⟨x0, x1, x2⟩ := X.out W (Below.refl _ _)
    go_wp2_with fail
    refine (l06Is_any n xs ys _ _ _ _ _ _ _ hl hm H.out H'.out).mono ?_
    rw [F.out]
    rintro e w1 ⟨rfl, hb⟩
    have B1 := Lib.hid (HB.out.trans (hb.mono HB.out.size))
    clear hb
    go_wp2
    go_ret2
    exact ⟨E.out, B1.out⟩
  · have F := Lib.hid h1
    cases h2 : isP ps ps.length
    · have F2 := Lib.hid h2
      have E := Lib.hid (ph_no (ls := ls) (show (isM n xs ys && isP ps ps.length) = false by rw [h2, Bool.and_false]))
      clear h1 h2
      go_enter Try.func15, Try.ntmps15
      go_wp2_with fail
      rw [← HW.out]
      obtain ⟨x0, x1, x2⟩ := X.out W (Below.refl _ _)
      go_wp2_with fail
      refine (l06Is_any n xs ys _ _ _ _ _ _ _ hl hm H.out H'.out).mono ?_
      rw [F.out]
      rintro e w1 ⟨rfl, hb⟩
      have B1 := Lib.hid (HB.out.trans (hb.mono HB.out.size))
      have A1 := Lib.hid (HN.out.keep hb (Nat.le_refl _))
      clear hb
      go_wp2_with fail
      refine (specIsP_any _ _ _ _ _ hz A1.out).mono ?_
      rw [F2.out]
      rintro e w2 ⟨rfl, hb2⟩
      have B2 := Lib.hid (B1.out.trans (hb2.mono B1.out.size))
      clear hb2
      go_wp2
      go_ret2
      exact ⟨E.out, B2.out⟩
    · have F2 := Lib.hid h2
      have hMP := Lib.hid (show (isM n xs ys && isP ps ps.length) = true by rw [h1, h2]; rfl)
      obtain ⟨e1, e2, e3, -, e5, -⟩ := isM_ok h1
      by_cases h10 : ls.length = 10
      · obtain ⟨f1, f2, f3⟩ := toPt_of h2
        obtain ⟨bp, op, rfl, hT⟩ := HN.out.pformula h2 hc1 hc2
        have HT := Lib.hid hT
        have XL := Lib.hid e5
        clear hT h1 h2 f2 e5
        obtain ⟨ff, hff⟩ : ∃ ff, ff = toPt ps := ⟨_, rfl⟩
        have HFF := Lib.hid hff
        rw [← hff] at f1 f3 HT
        clear hff
        obtain ⟨N, rfl⟩ : ∃ N : Nat, n = N := ⟨xs.length, e2⟩
        have hN : N ≤ 8 := by omega
        have HXN := Lib.hid (show xs.length = N by omega)
        obtain ⟨ba, oa, hal⟩ : ∃ ba oa, al = some ⟨ba, oa, none⟩ := by
          obtain ⟨ba, oa, h, -⟩ := HL.out.2.resolve_left (by omega)
          exact ⟨ba, oa, h⟩
        subst hal
        rw [h10] at HL
        have H10 := Lib.hid h10
        clear e1 e2 e3
        go_enter Try.func15, Try.ntmps15
        rw [h10]
        go_wp2_with fail
        rw [← HW.out]
        obtain ⟨x0, x1, x2⟩ := X.out W (Below.refl _ _)
        go_wp2_with fail
        refine (l06Is_any N xs ys _ _ _ _ _ _ _ hl hm H.out H'.out).mono ?_
        rw [F.out]
        rintro e w1 ⟨rfl, hb⟩
        have A1 := Lib.hid (HN.out.keep hb (Nat.le_refl _))
        have T1 := Lib.hid hb
        clear hb x0 x1 x2
        go_wp2_with fail
        refine (specIsP_any _ _ _ _ _ hz A1.out).mono ?_
        rw [F2.out]
        rintro e w2 ⟨rfl, hb2⟩
        have T2 := Lib.hid (T1.out.trans (hb2.mono T1.out.size))
        clear hb2
        go_wp2
        go_loopw [8] (fun i wr => ∃ k : Nat, k ≤ 10 ∧ i = .int .i64 k ∧ Hid (Below W.heap.size W wr) ∧ Hid (mapB N ls k = true)) (fun i _ => 10 - (intOf i).toNat)
        case atStart => exact ⟨0, Nat.zero_le _, rfl, T2, Lib.hid rfl⟩
        case round =>
          obtain ⟨k, hk, rfl, B, P⟩ := hrel
          obtain ⟨x0, x1, x2⟩ := X.out _ B.out
          by_cases hlt : k < 10
          · obtain ⟨ba', oa', hba, hbl, hcl⟩ := (HL.out.keep B.out (Nat.le_refl _)).2.resolve_left (by omega)
            simp only [Option.some.injEq, Addr.mk.injEq] at hba
            obtain ⟨rfl, rfl, -⟩ := hba
            have z := hcl k hlt
            clear hcl
            obtain ⟨m, hm2⟩ : ∃ m, m = nth ls k := ⟨_, rfl⟩
            have HM := Lib.hid hm2
            rw [← hm2] at z
            clear hm2
            have WL := Lib.hid (fun W => l05World_any N m a xs.length cap W (by omega) (by omega))
            cases hw : wlB N m
            · have FW := Lib.hid hw
              have E := Lib.hid (ph_out (ls := ls) hMP.out (show (decide (ls.length = 10) && mapB N ls ls.length) = false by
                rw [Bool.and_eq_false_iff]; right
                cases hmb : mapB N ls ls.length with
                | false => rfl
                | true => exact absurd ((mapB_all _ _ _).1 hmb k (by omega)) (by rw [← HM.out, hw]; simp)))
              rw [hw] at WL
              clear hw
              go_wp2
              go_region_law (first | (go_simp; go_at_call 48; refine (WL.out _).mono ?_; rintro e w3 ⟨rfl, hb3⟩; have B3 := Lib.hid (B.out.trans ((undrewH hb3).mono B.out.size)); clear hb3))
              all_goals
                clear x0 x1 x2 z
                go_wp2
                go_ret2
                exact ⟨E.out, HB.out.trans (B3.out.mono HB.out.size)⟩
            · have FW := Lib.hid hw
              have P2 := Lib.hid (show mapB N ls (k + 1) = true by rw [mapB, P.out, ← HM.out, hw]; rfl)
              rw [hw] at WL
              clear hw
              go_wp2
              go_region_law (first | (go_simp; go_at_call 48; refine (WL.out _).mono ?_; rintro e w3 ⟨rfl, hb3⟩; have B3 := Lib.hid (B.out.trans ((undrewH hb3).mono B.out.size)); clear hb3))
              all_goals
                clear x0 x1 x2 z
                go_wp2
                go_roundw
                case rel => exact ⟨k + 1, hlt, by go_num, B3, P2⟩
                case measure => simp [intOf]; omega
          · obtain rfl : k = 10 := by omega
            have hmb : mapB N ls ls.length = true := by rw [H10.out]; exact P.out
            have E := Lib.hid (ph_ok (ls := ls) hMP.out (show (decide (ls.length = 10) && mapB N ls ls.length) = true by rw [hmb, decide_eq_true H10.out]; rfl))
            have EV := Lib.hid (show voR xs ys (N : Int).toNat (toPt ps) ls = (fitP N (nst ff) && hol xs ys N ff ls) ∧ voC (N : Int).toNat (toPt ps) = (if fitP N (nst ff) then 0 else 3) by rw [HFF.out]; exact ⟨rfl, rfl⟩)
            have FI := Lib.hid (fun (W' : World) (hW' : Below W.heap.size W W') => l10Fits_any ff f1 N (by omega) bp op _ cp W' hz (HT.out.keep hW' (Nat.le_refl _)))
            have HH := Lib.hid (fun (W' : World) (hW' : Below W.heap.size W W') => l10Holds_any ff f1 N a cap xs b d ys (some ⟨ba, oa, none⟩) cl ls bp op _ cp W' hz hl hm ⟨hN, HXN.out, H.out.keep hW' (Nat.le_refl _), H'.out.keep hW' (Nat.le_refl _), HL.out.keep hW' (Nat.le_refl _), wz_of H10.out hmb, fun h => by cases h⟩ (vok_six (pos_of H10.out hmb) (by rw [XL.out]; omega) ff f1) (HT.out.keep hW' (Nat.le_refl _)))
            obtain ⟨q, hq⟩ : ∃ q, q = fitP N (nst ff) := ⟨_, rfl⟩
            obtain ⟨r, hr⟩ : ∃ r, r = hol xs ys N ff ls := ⟨_, rfl⟩
            rw [← hq] at FI EV
            rw [← hr] at HH EV
            rw [EV.out.1, EV.out.2] at E
            clear hq hr hmb
            cases q
            · go_wp2_with fail
              refine (FI.out _ B.out).mono ?_
              rintro e w3 ⟨rfl, rfl⟩
              go_wp2
              go_ret2
              exact ⟨E.out, HB.out.trans (B.out.mono HB.out.size)⟩
            · go_wp2_with fail
              refine (FI.out _ B.out).mono ?_
              rintro e w3 ⟨rfl, rfl⟩
              go_wp2_with fail
              refine (HH.out _ B.out).mono ?_
              rintro e w4 ⟨rfl, hb4⟩
              have B4 := Lib.hid (B.out.trans (hb4.mono B.out.size))
              clear hb4 x0 x1 x2
              go_wp2
              go_ret2
              exact ⟨E.out, HB.out.trans (B4.out.mono HB.out.size)⟩
      · have E := Lib.hid (ph_out (ls := ls) hMP.out (show (decide (ls.length = 10) && mapB n ls ls.length) = false by rw [decide_eq_false h10]; rfl))
        have h10' : ¬ (ls.length : Int) = 10 := by omega
        clear h1 h2 e1 e2 e3 e5
        go_enter Try.func15, Try.ntmps15
        go_wp2_with fail
        rw [← HW.out]
        obtain ⟨x0, x1, x2⟩ := X.out W (Below.refl _ _)
        go_wp2_with fail
        refine (l06Is_any n xs ys _ _ _ _ _ _ _ hl hm H.out H'.out).mono ?_
        rw [F.out]
        rintro e w1 ⟨rfl, hb⟩
        have B1 := Lib.hid (HB.out.trans (hb.mono HB.out.size))
        have A1 := Lib.hid (HN.out.keep hb (Nat.le_refl _))
        clear hb
        go_wp2_with fail
        refine (specIsP_any _ _ _ _ _ hz A1.out).mono ?_
        rw [F2.out]
        rintro e w2 ⟨rfl, hb2⟩
        have B2 := Lib.hid (B1.out.trans (hb2.mono B1.out.size))
        clear hb2
        go_wp2
        go_ret2
        exact ⟨E.out, B2.out⟩

end Go.Proofs.Ytbfnagmjnaacoaa
