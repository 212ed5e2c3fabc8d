/- The walk of the law FnTexts. Conditions: those in the theorems. -/
import Derived.Test.YtnoaaklkbfbdbaaJn05
import Derived.Test.YtnoaaklkbfbdbaaJn07
import Derived.Test.YtnoaaklkbfbdbaaFText
import Derived.Test.YtnoaaklkbfbdbaaJn06
import Derived.Test.YtnoaaklkbfbdbaaTxm
import Derived.Test.YtnoaaklkbfbdbaaPfv
namespace Go.Proofs.Ytnoaaklkbfbdbaa
open Go.RowKit

theorem implIsFormulaT (x0 : List Nd) (v : Value) (lo hi : Nat) (w : World) (hl : x0.length ≤ 1048576) (h : InN w lo hi v x0) :
    Calls Try.prog 32 #[v] w fun e w' => e = .returned (.bool (isB x0 x0.length)) ∧ Below w.heap.size w w' := by
  obtain ⟨a, cap, rfl, hat⟩ := h.at
  exact implIsF_any x0 a x0.length cap w hl hat
theorem str_partsT (f : Fm) (hf : f.ok) (h40 : f.sz ≤ 40) : ((str (f.wr 0)).size : Int) ≤ 200 ∧ pfZ (str (f.wr 0)) = f.enc ∧ pfA (str (f.wr 0)) = 0 ∧ pfC (str (f.wr 0)) = 0 := by
  have e : (str (f.wr 0)).data.toList = f.wr 0 := by simp [str]
  obtain ⟨p1, p2, p3⟩ := p_wr f hf h40
  refine ⟨?_, by rw [pfZ, e, p1], by rw [pfA, e, p2], by rw [pfC, e, p3]⟩
  have := f.wr_len 0
  show ((f.wr 0).toArray.size : Int) ≤ 200
  simp
  omega
theorem str_partsP (f : Fm) (hf : f.ok) (h40 : f.sz ≤ 40) : pfZ (⟨#[40]⟩ ++ str (f.wr 0) ++ ⟨#[41]⟩) = f.enc ∧ pfA (⟨#[40]⟩ ++ str (f.wr 0) ++ ⟨#[41]⟩) = 0 ∧ pfC (⟨#[40]⟩ ++ str (f.wr 0) ++ ⟨#[41]⟩) = 0 := by
  have e : (⟨#[40]⟩ ++ str (f.wr 0) ++ ⟨#[41]⟩ : ByteArray).data.toList = 40 :: (f.wr 0 ++ [41]) := by simp [str, ByteArray.data_append]
  obtain ⟨p1, p2, p3⟩ := p_wr2 f hf h40
  exact ⟨by rw [pfZ, e, p1], by rw [pfA, e, p2], by rw [pfC, e, p3]⟩

set_option maxHeartbeats 8000000 in
set_option maxRecDepth 100000 in
theorem lawTexts (a : Option Addr) (len cap : Nat) (zs : List Int) (w : World) (h : IsRow .u8 w a len cap zs) :
    Calls Try.prog 7 #[.slice a len cap] w fun e w' => e = .returned (.bool true) ∧ Below w.heap.size w w' := by
  by_cases hbig : 4096 < len
  · clear h
    go_enter Try.func7, Try.ntmps7
    go_wp2_with (go_at_call 23; refine (bigY _ _ _ _ hbig).mono ?_; rintro e w' ⟨rfl, rfl⟩)
    go_ret
    exact ⟨rfl, Below.refl _ _⟩
  have hl : len ≤ 4096 := by omega
  have HC := Lib.hid (Code.of_row h hl)
  clear h hbig
  go_enter Try.func7, Try.ntmps7
  go_wp2_with fail
  refine (bigN _ _ _ _ hl).mono ?_
  rintro e w' ⟨rfl, rfl⟩
  go_wp2_with fail
  refine (DrawFormulaText_any a len cap w HC.out).mono ?_
  rintro e w1 ⟨⟨va, z, rfl, ho, hzl⟩, hb⟩
  have B1 := Lib.hid hb
  have Ia1 := Lib.hid ho.inn
  clear hb HC ho
  obtain ⟨S, hS⟩ : ∃ S, S = txR z := ⟨_, rfl⟩
  obtain ⟨c, hc⟩ : ∃ c, c = txC z := ⟨_, rfl⟩
  have KS := Lib.hid hS
  have KC := Lib.hid hc
  clear hS hc
  go_wp2_with fail
  refine (implFormulaText_v z _ _ _ _ (by omega) Ia1.out).mono ?_
  rw [← KS.out, ← KC.out]
  rintro e w2 ⟨rfl, hb⟩
  have B2 := Lib.hid (B1.out.trans (hb.mono B1.out.size))
  have Ia2 := Lib.hid (Ia1.out.below hb Ia1.out.2.1)
  clear hb Ia1 B1
  go_wp2_with fail
  refine (specFormulaText_v z _ _ _ _ (by omega) Ia2.out).mono ?_
  rw [← KS.out, ← KC.out]
  rintro e w3 ⟨rfl, hb⟩
  have B3 := Lib.hid (B2.out.trans (hb.mono B2.out.size))
  have Ia3 := Lib.hid (Ia2.out.below hb Ia2.out.2.1)
  clear hb Ia2 B2
  have hSS : (S.toList == S.toList) = true := by simp
  cases hB : isB z z.length with
  | false =>
    have e1 := (tx_bad hB).2
    have hc1 : c = 1 := by rw [KC.out, e1]
    subst hc1
    have HB := Lib.hid hB
    clear KS KC e1 hB
    go_wp2_with fail
    refine (implIsFormulaT z _ _ _ _ (by omega) Ia3.out).mono ?_
    rw [HB.out]
    rintro e w4 ⟨rfl, hb⟩
    go_wp2
    go_ret
    exact ⟨rfl, B3.out.trans (hb.mono B3.out.size)⟩
  | true =>
    obtain ⟨e0, e1⟩ := tx_good hB
    have hc1 : c = 0 := by rw [KC.out, e1]
    subst hc1
    obtain ⟨hf, hz, h40⟩ := toFm_of hB
    obtain ⟨f, hfe⟩ : ∃ f, f = toFm z := ⟨_, rfl⟩
    rw [← hfe] at hf hz h40 e0
    clear hfe
    obtain ⟨s1, s2, s3, s4⟩ := str_partsT f hf h40
    obtain ⟨p2, p3, p4⟩ := str_partsP f hf h40
    rw [← e0, ← KS.out, ← hz] at s2 p2
    rw [← e0, ← KS.out] at s1 s3 s4 p3 p4
    have hS200 : S.size ≤ 200 := by omega
    have PT := Lib.hid (show (⟨#[40]⟩ ++ S ++ ⟨#[41]⟩ : ByteArray).size = 1 + S.size + 1 by rw [ByteArray.size_append, ByteArray.size_append]; rfl)
    have KS2 := Lib.hid (show S = str (f.wr 0) by rw [KS.out, e0])
    have SS2 := Lib.hid s2
    have SS3 := Lib.hid s3
    have SS4 := Lib.hid s4
    have PP2 := Lib.hid p2
    have PP3 := Lib.hid p3
    have PP4 := Lib.hid p4
    have HF := Lib.hid hf
    have HZ := Lib.hid hz
    have H40 := Lib.hid h40
    have HB := Lib.hid hB
    clear s1 s2 s3 s4 p2 p3 p4 KS KC e0 e1 hB hf hz h40
    go_wp2_with fail
    refine (implParseFormula_v S _ (by omega)).mono ?_
    rw [SS2.out, SS3.out, SS4.out]
    rintro e w4 ⟨vb, rfl, ho, hb⟩
    have B4 := Lib.hid (B3.out.trans (hb.mono B3.out.size))
    have Ia4 := Lib.hid (Ia3.out.below hb Ia3.out.2.1)
    have Ib4 := Lib.hid ho.inn
    clear ho hb Ia3 B3
    have hA : ¬ 9223372036854775807 < 1 + S.size := by omega
    have hA1 : ¬ 9223372036854775807 < 1 + S.size + 1 := by omega
    go_wp2_with fail
    refine (implParseFormula_v _ _ (by rw [PT.out]; omega)).mono ?_
    rw [PP2.out, PP3.out, PP4.out]
    rintro e w5 ⟨vd, rfl, ho, hb⟩
    have B5 := Lib.hid (B4.out.trans (hb.mono B4.out.size))
    have Ia5 := Lib.hid (Ia4.out.below hb Ia4.out.2.1)
    have Ib5 := Lib.hid (Ib4.out.below hb Ib4.out.2.1)
    have Id5 := Lib.hid ho.inn
    clear ho hb Ia4 Ib4 B4 hA hA1
    go_wp2_with fail
    refine (same_in z _ _ _ _ _ _ _ (by omega) Ib5.out Ia5.out).mono ?_
    rintro e w6 ⟨rfl, hb⟩
    have B6 := Lib.hid (B5.out.trans (hb.mono B5.out.size))
    have Ia6 := Lib.hid (Ia5.out.below hb Ia5.out.2.1)
    have Id6 := Lib.hid (Id5.out.below hb Id5.out.2.1)
    clear hb Ia5 Ib5 Id5 B5
    go_wp2_with fail
    refine (same_in z _ _ _ _ _ _ _ (by omega) Id6.out Ia6.out).mono ?_
    rintro e w7 ⟨rfl, hb⟩
    have B7 := Lib.hid (B6.out.trans (hb.mono B6.out.size))
    have Ia7 := Lib.hid (Ia6.out.below hb Ia6.out.2.1)
    clear hb Ia6 Id6 B6
    obtain ⟨u1, u2⟩ := su_good HB.out
    obtain ⟨L, hL⟩ : ∃ L, L = suL z z.length := ⟨_, rfl⟩
    have LR := Lib.hid (show suR z = L by rw [u1, hL])
    have LC := Lib.hid u2
    have LM := Lib.hid (show f.wr 0 ∈ L by rw [hL, HZ.out]; exact tx_mem f HF.out H40.out)
    have LE := Lib.hid (show ∀ i, i < L.length → ∃ g : Fm, g.ok ∧ g.sz ≤ 40 ∧ nthS L i = g.wr 0 from fun i hi => by rw [hL] at hi ⊢; exact tx_entry HB.out hi)
    have LU := Lib.hid (show ∀ i, i + 1 < L.length → nthS L i < nthS L (i + 1) from fun i hi => by rw [hL] at hi ⊢; exact tx_up hi)
    have hLn : L.length ≤ 64 := by rw [hL]; exact Nat.le_trans (suL_len z z.length) hzl
    have hL0 : 0 < L.length := List.length_pos_of_mem LM.out
    clear hL u1 u2 PP2 PP3 PP4 SS2 SS3 SS4 PT
    go_wp2_with fail
    refine (implSubformulasOf_v z _ _ _ _ (by omega) Ia7.out).mono ?_
    rw [LR.out, LC.out]
    rintro e w8 ⟨vL, rfl, ho, hb⟩
    have B8 := Lib.hid (B7.out.trans (hb.mono B7.out.size))
    have Ia8 := Lib.hid (Ia7.out.below hb Ia7.out.2.1)
    obtain ⟨aL, cL, rfl, -, -⟩ := ho.at
    have IL8 := Lib.hid ho.inS
    clear hb ho Ia7 B7
    obtain ⟨n, hn⟩ : ∃ n, n = L.length := ⟨_, rfl⟩
    have HN := Lib.hid hn
    rw [← hn] at hLn hL0 IL8 ⊢
    clear hn
    have hn0 : ((n : Int) == 0) = false := by simp; omega
    go_wp2
    go_loopw [16, 17] (fun fd i wr => ∃ (k : Nat) (b : Bool), k ≤ n ∧ i = .int .i64 k ∧ fd = .bool b ∧ Hid ((∃ j, j < k ∧ nthS L j = f.wr 0) → b = true) ∧ Hid (Below w.heap.size w wr) ∧ Hid (InN wr w.heap.size w1.heap.size va z) ∧ Hid (InS wr w7.heap.size w8.heap.size (.slice aL n cL) L)) (fun _ i _ => n - (intOf i).toNat)
    case atStart => exact ⟨0, false, Nat.zero_le _, rfl, rfl, Lib.hid (fun ⟨j, hj, _⟩ => absurd hj (Nat.not_lt_zero _)), B8, Ia8, IL8⟩
    case round =>
      obtain ⟨k, b, hkn, rfl, rfl, FD, BR, Ia, IL⟩ := hrel
      clear B8 Ia8 IL8
      by_cases hlt : k < n
      · have hkL : k < L.length := by have := HN.out; omega
        obtain ⟨g, hg, hg40, hge⟩ := LE.out k hkL
        obtain ⟨s1, s2, s3, s4⟩ := str_partsT g hg hg40
        obtain ⟨o1, o2⟩ := co_fm g f hg HF.out hg40 H40.out
        rw [← HZ.out] at o1 o2
        obtain ⟨T, hT⟩ : ∃ T, T = str (g.wr 0) := ⟨_, rfl⟩
        rw [← hT] at s1 s2 s3 s4
        have hyl : g.enc.length ≤ 1048576 := by rw [Fm.enc_len]; omega
        obtain ⟨y, hy⟩ : ∃ y, y = g.enc := ⟨_, rfl⟩
        rw [← hy] at s2 o1 o2 hyl
        obtain ⟨o, ho⟩ : ∃ o, o = coR y z := ⟨_, rfl⟩
        rw [← ho] at o1
        have O1 := Lib.hid ho.symm
        have O2 := Lib.hid o2
        have S2 := Lib.hid s2
        have S3 := Lib.hid s3
        have S4 := Lib.hid s4
        obtain ⟨a9, c9, e9, hat⟩ := IL.out.at
        obtain ⟨bL, oL, hbl, hbw, hcell⟩ := hat.2.resolve_left (by have := HN.out; omega)
        have ea : aL = some ⟨bL, oL, none⟩ := by rw [← hbl]; injection e9
        subst ea
        have hTx : stx (nthS L k) = T := by rw [hge, hT]; rfl
        have g1 : wr.cell? ⟨bL, oL + k, none⟩ = some (.string T) := by rw [← hTx]; exact hcell k hkL
        have CELL := Lib.hid (show ∀ j, j < n → wr.cell? ⟨bL, oL + j, none⟩ = some (.string (stx (nthS L j))) from fun j hj => hcell j (by have := HN.out; omega))
        have HT := Lib.hid hT
        have HGE := Lib.hid hge
        have HBW := Lib.hid hbw
        have CO := Lib.hid (show (o = -1 ∧ (T.toList == S.toList) = false ∧ Op.bytesLess T.toList S.toList = true) ∨ (o = 1 ∧ (T.toList == S.toList) = false ∧ Op.bytesLess T.toList S.toList = false) ∨ (o = 0 ∧ (T.toList == S.toList) = true ∧ Op.bytesLess T.toList S.toList = false) by
          rw [hT, KS2.out, str_list, str_list, o1]
          rcases cmp3 (g.wr 0) (f.wr 0) with ⟨q1, q2, q3⟩ | ⟨q1, q2, q3⟩ | ⟨q1, q2, q3⟩
          · exact .inl ⟨q1, by simpa using q3, q2⟩
          · exact .inr (.inl ⟨q1, by simpa using q3, q2⟩)
          · exact .inr (.inr ⟨q1, by simpa using q3, q2⟩))
        have CQ := Lib.hid (show o = 0 → g.wr 0 = f.wr 0 from fun e => by
          rcases cmp3 (g.wr 0) (f.wr 0) with ⟨q1, q2, q3⟩ | ⟨q1, q2, q3⟩ | ⟨q1, q2, q3⟩
          · omega
          · omega
          · exact q3)
        have CQ2 := Lib.hid (show g.wr 0 = f.wr 0 → o = 0 from fun e => by
          rcases cmp3 (g.wr 0) (f.wr 0) with ⟨q1, q2, q3⟩ | ⟨q1, q2, q3⟩ | ⟨q1, q2, q3⟩
          · exact absurd e q3
          · exact absurd e q3
          · omega)
        clear s2 s3 s4 o1 o2 ho hT hge hTx hcell hat e9 hbl hbw hy hg hg40
        go_wp2_with fail
        refine (implParseFormula_v T _ (by omega)).mono ?_
        rw [S2.out, S3.out, S4.out]
        rintro e wa ⟨ve, rfl, hoe, hb⟩
        have BA := Lib.hid (BR.out.trans (hb.mono BR.out.size))
        have IaA := Lib.hid (Ia.out.below hb Ia.out.2.1)
        have ILA := Lib.hid (IL.out.below hb IL.out.2.1)
        have IeA := Lib.hid hoe.inn
        have CA := Lib.hid (show ∀ j, j < n → wa.cell? ⟨bL, oL + j, none⟩ = some (.string (stx (nthS L j))) from fun j hj => (hb.cell (p := ⟨bL, oL + j, none⟩) HBW.out).trans (CELL.out j hj))
        have HBA := Lib.hid (Nat.lt_of_lt_of_le HBW.out hb.size)
        clear hb hoe g1 BR Ia IL CELL HBW
        go_wp2_with fail
        refine (implCompareFormulas_v y z _ _ _ _ _ _ _ hyl (by omega) IeA.out IaA.out).mono ?_
        rw [O1.out, O2.out]
        rintro e wb ⟨rfl, hb⟩
        have BB := Lib.hid (BA.out.trans (hb.mono BA.out.size))
        have IaB := Lib.hid (IaA.out.below hb IaA.out.2.1)
        have ILB := Lib.hid (ILA.out.below hb ILA.out.2.1)
        have CB := Lib.hid (show ∀ j, j < n → wb.cell? ⟨bL, oL + j, none⟩ = some (.string (stx (nthS L j))) from fun j hj => (hb.cell (p := ⟨bL, oL + j, none⟩) HBA.out).trans (CA.out j hj))
        have gk : wb.cell? ⟨bL, oL + k, none⟩ = some (.string T) := by rw [CB.out k hlt, HGE.out, HT.out]; rfl
        clear hb BA IaA ILA IeA CA HBA
        obtain ⟨e0, he1, he2⟩ : ∃ e0 : Bool, (o == 0) = e0 ∧ (T.toList == S.toList) = e0 := by
          rcases CO.out with ⟨rfl, q1, q2⟩ | ⟨rfl, q1, q2⟩ | ⟨rfl, q1, q2⟩
          · exact ⟨false, rfl, q1⟩
          · exact ⟨false, rfl, q1⟩
          · exact ⟨true, rfl, q1⟩
        obtain ⟨l0, hl1, hl2⟩ : ∃ l0 : Bool, decide (o < 0) = l0 ∧ Op.bytesLess T.toList S.toList = l0 := by
          rcases CO.out with ⟨rfl, q1, q2⟩ | ⟨rfl, q1, q2⟩ | ⟨rfl, q1, q2⟩
          · exact ⟨true, rfl, q2⟩
          · exact ⟨false, rfl, q2⟩
          · exact ⟨false, rfl, q2⟩
        have hne : (e0 != e0) = false := by simp
        have hnl : (l0 != l0) = false := by simp
        have HE := Lib.hid he1
        clear hSS hn0
        rcases Nat.eq_zero_or_pos k with hk0 | hk0
        · subst hk0
          have gk0 : wb.cell? ⟨bL, oL, none⟩ = some (.string T) := by simpa using gk
          go_wp2
          go_quiet (fail)
          cases b with
          | true =>
            go_wp2
            go_roundw
            case rel => exact ⟨0 + 1, true, hlt, by go_num, rfl, Lib.hid (fun _ => rfl), Lib.hid (below_drewN' BB.out _), Lib.hid (IaB.out.below (below_drewN' (Below.refl _ _) _) (Nat.le_refl _)), Lib.hid (ILB.out.below (below_drewN' (Below.refl _ _) _) (Nat.le_refl _))⟩
            case measure => simp [intOf]; omega
          | false =>
            go_wp2
            go_roundw
            case rel => exact ⟨0 + 1, e0, hlt, by go_num, rfl, Lib.hid (fun ⟨j, hj, hje⟩ => by
              by_cases hjk : j = 0
              · subst hjk
                rw [← HE.out]
                have := CQ2.out (HGE.out ▸ hje)
                simp [this]
              · exact absurd (FD.out ⟨j, by omega, hje⟩) (by simp)), Lib.hid (below_drewN' BB.out _), Lib.hid (IaB.out.below (below_drewN' (Below.refl _ _) _) (Nat.le_refl _)), Lib.hid (ILB.out.below (below_drewN' (Below.refl _ _) _) (Nat.le_refl _))⟩
            case measure => simp [intOf]; omega
        · obtain ⟨q, rfl⟩ : ∃ q, k = q + 1 := ⟨k - 1, by omega⟩
          obtain ⟨U, hU⟩ : ∃ U, U = stx (nthS L q) := ⟨_, rfl⟩
          have gq : wb.cell? ⟨bL, oL + q, none⟩ = some (.string U) := by rw [CB.out q (by omega), hU]
          have hlu : Op.bytesLess U.toList T.toList = true := by
            have e1 : U.toList = nthS L q := by rw [hU]; exact str_list _
            have e2 : T.toList = nthS L (q + 1) := by rw [HT.out, ← HGE.out]; exact str_list _
            rw [e1, e2, less_lt]
            exact decide_eq_true (LU.out q hkL)
          clear hU
          have hq1 : (0 : Int) < ((q + 1 : Nat) : Int) := by omega
          have hq2 : IntKind.i64.wrap ((q : Int) + 1 - 1) = (q : Int) := by rw [Int.add_sub_cancel]; exact IntWalk.i64_in _ (by omega)
          have hq3 : (0 : Int) < (q : Int) + 1 := by omega
          go_wp2
          go_quiet (fail)
          cases b with
          | true =>
            go_wp2
            go_roundw
            case rel => exact ⟨q + 1 + 1, true, hlt, by go_num, rfl, Lib.hid (fun _ => rfl), Lib.hid (below_drewN' BB.out _), Lib.hid (IaB.out.below (below_drewN' (Below.refl _ _) _) (Nat.le_refl _)), Lib.hid (ILB.out.below (below_drewN' (Below.refl _ _) _) (Nat.le_refl _))⟩
            case measure => simp [intOf]; omega
          | false =>
            go_wp2
            go_roundw
            case rel => exact ⟨q + 1 + 1, e0, hlt, by go_num, rfl, Lib.hid (fun ⟨j, hj, hje⟩ => by
              by_cases hjk : j = q + 1
              · subst hjk
                rw [← HE.out]
                have := CQ2.out (HGE.out ▸ hje)
                simp [this]
              · exact absurd (FD.out ⟨j, by omega, hje⟩) (by simp)), Lib.hid (below_drewN' BB.out _), Lib.hid (IaB.out.below (below_drewN' (Below.refl _ _) _) (Nat.le_refl _)), Lib.hid (ILB.out.below (below_drewN' (Below.refl _ _) _) (Nat.le_refl _))⟩
            case measure => simp [intOf]; omega
      · obtain rfl : k = n := by omega
        obtain ⟨j, hj, hje⟩ := List.getElem_of_mem LM.out
        have hb : b = true := FD.out ⟨j, by have := HN.out; omega, by rw [nthS, List.getD_eq_getElem?_getD, List.getElem?_eq_getElem hj]; exact hje⟩
        subst hb
        go_wp2
        go_ret
        exact ⟨rfl, BR.out⟩

end Go.Proofs.Ytnoaaklkbfbdbaa
