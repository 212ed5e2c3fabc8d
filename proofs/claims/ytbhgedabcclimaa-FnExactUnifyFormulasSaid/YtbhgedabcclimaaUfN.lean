/- Contract of the method next of the program's unification. Conditions: those in the theorems. -/
import Derived.Test.YtbhgedabcclimaaUfJ
import Derived.OwnWalk
namespace Go.Proofs.Ytbhgedabcclimaa
open Go.RowKit

/-- What next returns. -/
def NextR (xs ys : List Nd) (bx by' : Nat) (w : World) (e : Ending) : Prop :=
  (nx xs ys = none ∧ e = .returned (.tuple #[.int .i64 0, .slice none 0 0, .bool false])) ∨
  ∃ (q yb yo yc : Nat) (Y : List Nd), nx xs ys = some (q, Y) ∧ e = .returned (.tuple #[.int .i64 q, .slice (some ⟨yb, yo, none⟩) Y.length yc, .bool true]) ∧ AtN w (some ⟨yb, yo, none⟩) Y.length Y ∧ isB Y Y.length = true ∧ q ≤ 5 ∧ (yb = bx ∨ yb = by')

set_option maxHeartbeats 16000000 in
set_option maxRecDepth 100000 in
theorem next_any (xs ys : List Nd) (R bx ox ca by' oy cb : Nat) (vi : Value) (w : World) (hx : isB xs xs.length = true) (hy : isB ys ys.length = true) (hcx : xs.length ≤ ca ∧ ca ≤ 9223372036854775807) (hcy : ys.length ≤ cb ∧ cb ≤ 9223372036854775807) (hne : xs ≠ ys) (hR : UnR w R (.slice (some ⟨bx, ox, none⟩) xs.length ca) (.slice (some ⟨by', oy, none⟩) ys.length cb) vi) (h : AtN w (some ⟨bx, ox, none⟩) xs.length xs) (h' : AtN w (some ⟨by', oy, none⟩) ys.length ys) :
    Calls Try.prog 79 #[.pointer (some ⟨R, 0, none⟩)] w fun e w' => NextR xs ys bx by' w e ∧ Below w.heap.size w w' := by
  obtain ⟨r0, r1, r2, -⟩ := hR.cells
  have hlx := is_pos' hx
  have hly := is_pos' hy
  obtain ⟨k, hk⟩ : ∃ k, k = cp xs ys := ⟨_, rfl⟩
  have KK := Lib.hid hk
  obtain ⟨hka, hkb⟩ : k < xs.length ∧ k < ys.length := by rw [hk]; exact cp_lt hx hy hne
  have FD := Lib.hid (show ∀ (c c' : Nat) (W : World), AtN W (some ⟨bx, ox, none⟩) xs.length xs → AtN W (some ⟨by', oy, none⟩) ys.length ys → _ from fun c c' W hW hW' => firstDiff_any xs ys bx ox xs.length c by' oy ys.length c' k W (by omega) (by omega) hW hW' hka hkb (by rw [hk]; exact cp_same xs ys) (by rw [hk]; exact cp_diff xs ys (by rw [← hk]; exact hka) (by rw [← hk]; exact hkb)))
  obtain ⟨b, off, hab, hbb, hc⟩ := h.2.resolve_left (by omega)
  cases hab
  obtain ⟨b', off', hab, hbb', hc'⟩ := h'.2.resolve_left (by omega)
  cases hab
  obtain ⟨c1, c2⟩ := hc k hka
  obtain ⟨d1, d2⟩ := hc' k hkb
  obtain ⟨t, ht, ht1, ht2, hcut, hcl, hcis, -, -⟩ := cut_at hx hka
  obtain ⟨t', ht', ht1', ht2', hcut', hcl', hcis', -, -⟩ := cut_at hy hkb
  have hkx : (k : Int) < (xs.length : Int) := by omega
  have hky : (k : Int) < (ys.length : Int) := by omega
  have hca : ¬ ca = k := by omega
  have hcb : ¬ cb = k := by omega
  have PX : ∀ (W' : World), AtN W' (some ⟨bx, ox, none⟩) xs.length xs → Calls Try.prog 89 #[.slice (some ⟨bx, ox, none⟩) xs.length ca, .int .i64 k] W' fun e' w' => e' = .returned (.int .i64 (t : Int)) ∧ W' = w' := fun W' hW => partEnd_any xs _ _ _ k t W' (by omega) (by omega) hW ht (by omega)
  have PY : ∀ (W' : World), AtN W' (some ⟨by', oy, none⟩) ys.length ys → Calls Try.prog 89 #[.slice (some ⟨by', oy, none⟩) ys.length cb, .int .i64 k] W' fun e' w' => e' = .returned (.int .i64 (t' : Int)) ∧ W' = w' := fun W' hW => partEnd_any ys _ _ _ k t' W' (by omega) (by omega) hW ht' (by omega)
  have SX := Lib.hid (show AtN w (some ⟨bx, ox + k * 2, none⟩) (t - k) (cut xs k) by rw [hcut]; exact h.sub k (t - k) (by omega))
  have SY := Lib.hid (show AtN w (some ⟨by', oy + k * 2, none⟩) (t' - k) (cut ys k) by rw [hcut']; exact h'.sub k (t' - k) (by omega))
  have ISX := Lib.hid hcis
  have ISY := Lib.hid hcis'
  have H := Lib.hid h
  have H' := Lib.hid h'
  obtain ⟨SB, hSB⟩ : ∃ SB, SB = swB (kd xs k) (sy xs k) (kd ys k) (sy ys k) := ⟨_, rfl⟩
  have SWH := Lib.hid hSB
  have KX := Lib.hid (show kd xs k = 0 → 0 ≤ sy xs k ∧ sy xs k < 6 from fun _ => by obtain ⟨q, hq1, hq2⟩ := sy_six (is_treeTo' hx) hka; omega)
  have KY := Lib.hid (show kd ys k = 0 → 0 ≤ sy ys k ∧ sy ys k < 6 from fun _ => by obtain ⟨q, hq1, hq2⟩ := sy_six (is_treeTo' hy) hkb; omega)
  have NXX := Lib.hid (show nx xs ys = if SB then (if kd ys k ≠ 0 ∨ (kd ys k, sy ys k) ∈ cut xs k then none else some ((sy ys k).toNat, cut xs k)) else (if kd xs k ≠ 0 ∨ (kd xs k, sy xs k) ∈ cut ys k then none else some ((sy xs k).toNat, cut ys k)) by
    rw [nx, SWH.out, ← KK.out]; rfl)
  obtain ⟨POST, hPOST⟩ : ∃ POST, POST = NextR xs ys bx by' w := ⟨_, rfl⟩
  rw [← hPOST]
  have PP := Lib.hid hPOST
  clear hc hc' ht ht' hcut hcut' hcl hcl' hcis hcis' hne hR h h' hx hy hk hSB hPOST KK
  go_enter Try.func79, Try.ntmps79
  go_wp2
  go_quiet ((go_at_call 112; exact q_drew (FD.out _ _ _ (show AtN _ _ _ _ from H.out) (show AtN _ _ _ _ from H'.out)) (fun q => ⟨_, World.drewN_drewN _ _ _⟩)))
  rename Nat => nq1
  go_wp2
  go_quiet ((first | (go_at_call_of 89 ca; exact q_same (PX _ H.out) rfl) | (go_at_call_of 89 cb; exact q_same (PY _ H'.out) rfl)))
  rename Nat => nq2
  clear PX PY FD
  go_wp2
  go_cut [47] (fun s47 wx => s47 = .bool SB ∧ Hid (Below w.heap.size w wx))
  case first =>
    go_region_with (go_at_call 113; refine (boundBefore_any (kd xs k) (sy xs k) (kd ys k) (sy ys k) _).mono ?_; rintro e w3 ⟨rfl, hb3⟩)
    all_goals (try go_wp2_with fail)
    all_goals go_meet
    all_goals exact ⟨by rw [SWH.out], (show Below w.heap.size w w3 from (below_drewN' (Below.refl w.heap.size w) _).trans hb3)⟩
  case rest =>
    obtain ⟨rfl, hbz⟩ := hcut
    rename World => wz
    have e1 := (hbz.out.cell (p := ⟨bx, ox + k * 2, none⟩) hbb).trans c1
    have e2 := (hbz.out.cell (p := ⟨bx, ox + k * 2 + 1, none⟩) hbb).trans c2
    have g1 := (hbz.out.cell (p := ⟨by', oy + k * 2, none⟩) hbb').trans d1
    have g2 := (hbz.out.cell (p := ⟨by', oy + k * 2 + 1, none⟩) hbb').trans d2
    clear c1 c2 d1 d2 r0 r1 r2
    go_upto_if 47 with fail
    go_cut [6, 7] (fun s6 s7 wx => ∃ (kb sb : Int) (bb bo bn bc yb yo yn yc : Nat) (Y : List Nd), s6 = .slice (some ⟨bb, bo, none⟩) bn bc ∧ s7 = .slice (some ⟨yb, yo, none⟩) yn yc ∧ 0 < bn ∧ wx = wz ∧ bb < w.heap.size ∧ wz.cell? ⟨bb, bo, none⟩ = some (.int .i64 kb) ∧ wz.cell? ⟨bb, bo + 1, none⟩ = some (.int .i64 sb) ∧ Hid (AtN w (some ⟨yb, yo, none⟩) yn Y ∧ isB Y Y.length = true ∧ (yb = bx ∨ yb = by')) ∧ Hid (nx xs ys = if kb ≠ 0 ∨ (kb, sb) ∈ Y then none else some (sb.toNat, Y)) ∧ Hid (kb = 0 → 0 ≤ sb ∧ sb < 6))
    case first =>
      cases SB
      · have NN := Lib.hid (show nx xs ys = if kd xs k ≠ 0 ∨ (kd xs k, sy xs k) ∈ cut ys k then none else some ((sy xs k).toNat, cut ys k) from NXX.out)
        go_wp2
        go_meet
        exact ⟨kd xs k, sy xs k, bx, ox + k * 2, t - k, ca - k, by', oy + k * 2, t' - k, cb - k, cut ys k, rfl, rfl, by omega, rfl, hbb, e1, e2, (show _ ∧ _ ∧ _ from ⟨SY.out, ISY.out, .inr rfl⟩), NN, KX⟩
      · have NN := Lib.hid (show nx xs ys = if kd ys k ≠ 0 ∨ (kd ys k, sy ys k) ∈ cut xs k then none else some ((sy ys k).toNat, cut xs k) from NXX.out)
        go_wp2
        go_meet
        exact ⟨kd ys k, sy ys k, by', oy + k * 2, t' - k, cb - k, bx, ox + k * 2, t - k, ca - k, cut xs k, rfl, rfl, by omega, rfl, hbb', g1, g2, (show _ ∧ _ ∧ _ from ⟨SX.out, ISX.out, .inl rfl⟩), NN, KY⟩
    case rest =>
      clear e1 e2 g1 g2 SX SY ISX ISY NXX KX KY SWH ht1 ht2 ht1' ht2' hkx hky hca hcb H H' hbb hbb'
      obtain ⟨kb, sb, bb, bo, bn, bc, yb, yo, yn, yc, Y, rfl, rfl, hbn, rfl, hbw, e1, e2, hYY, hNX, hKB⟩ := hcut
      have hyl := is_pos' hYY.out.2.1
      have hyn : 0 < yn ∧ yn ≤ 40 := by rw [hYY.out.1.1]; exact hyl
      have YZ := Lib.hid (hYY.out.1.keep hbz.out (Nat.le_refl _))
      have hbw2 := Nat.lt_of_lt_of_le hbw hbz.out.size
      by_cases hk0 : kb = 0
      · subst hk0
        by_cases hm : (0, sb) ∈ Y
        · have E := Lib.hid (show decide (((0 : Int), sb) ∈ Y) = true from decide_eq_true hm)
          have NX := Lib.hid (show nx xs ys = none by rw [hNX.out, if_pos (.inr hm)])
          have P := Lib.hid (show ∀ e, e = .returned (.tuple #[.int .i64 0, .slice none 0 0, .bool false]) → POST e from fun e he => by
            rw [PP.out]
            exact .inl ⟨NX.out, he⟩)
          clear hNX hKB hm hyl
          go_wp2_with fail
          refine (slContains_any Y _ sb yb yo yn yc _ (by omega) YZ.out).mono ?_
          rw [E.out]
          rintro e w4 ⟨rfl, hb4⟩
          have B4 := Lib.hid (hbz.out.trans (hb4.mono hbz.out.size))
          clear hb4
          go_wp2
          go_ret3
          exact ⟨P.out _ rfl, B4.out⟩
        · have E := Lib.hid (show decide (((0 : Int), sb) ∈ Y) = false from decide_eq_false hm)
          obtain ⟨q, hq⟩ := Int.eq_ofNat_of_zero_le (hKB.out rfl).1
          have hq5 : q ≤ 5 := by have := (hKB.out rfl).2; omega
          have NX := Lib.hid (show nx xs ys = some (q, Y) by rw [hNX.out, if_neg (by simpa using hm), hq, Int.toNat_natCast])
          rw [hq] at e2 E
          have P := Lib.hid (show ∀ e, e = .returned (.tuple #[.int .i64 q, .slice (some ⟨yb, yo, none⟩) yn yc, .bool true]) → POST e from fun e he => by
            rw [PP.out]
            exact .inr ⟨q, yb, yo, yc, Y, NX.out, by rw [he, hYY.out.1.1], by rw [← hYY.out.1.1]; exact hYY.out.1, hYY.out.2.1, hq5, hYY.out.2.2⟩)
          clear hq hNX hKB hm hyl
          go_wp2_with fail
          refine (slContains_any Y _ q yb yo yn yc _ (by omega) YZ.out).mono ?_
          rw [E.out]
          rintro e w4 ⟨rfl, hb4⟩
          have f2 := (hb4.cell (p := ⟨bb, bo + 1, none⟩) hbw2).trans e2
          have B4 := Lib.hid (hbz.out.trans (hb4.mono hbz.out.size))
          clear hb4 e1 e2
          go_wp2
          go_ret3
          exact ⟨P.out _ rfl, B4.out⟩
      · have NX := Lib.hid (show nx xs ys = none by rw [hNX.out, if_pos (.inl hk0)])
        have P := Lib.hid (show ∀ e, e = .returned (.tuple #[.int .i64 0, .slice none 0 0, .bool false]) → POST e from fun e he => by
          rw [PP.out]
          exact .inl ⟨NX.out, he⟩)
        clear hNX hKB hyl
        go_wp2
        go_ret3
        exact ⟨P.out _ rfl, hbz.out⟩

end Go.Proofs.Ytbhgedabcclimaa
