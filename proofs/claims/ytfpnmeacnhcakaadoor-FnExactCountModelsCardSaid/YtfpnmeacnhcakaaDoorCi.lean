/- CountModels of the program. Conditions: the package's table, and those in the theorems. -/
import Derived.Test.YtfpnmeacnhcakaaDoorCm
import Derived.Test.YtfpnmeacnhcakaaDoorVars2
namespace Go.Proofs.YtfpnmeacnhcakaaDoor
open Go.RowKit

theorem ret_ii {a b : Int} {i j : Int} (h1 : a = b) (h2 : i = j) : Ending.returned (.tuple #[.int .i64 a, .int .i64 i]) = .returned (.tuple #[.int .i64 b, .int .i64 j]) := by rw [h1, h2]

set_option maxHeartbeats 2000000 in
theorem implCountModels_v (x0 : List Nd) (x1 : Int) (v : Value) (lo hi : Nat) (w : World) (hl : x0.length ≤ 1048576) (h : InN w lo hi v x0) (hT : Tb w) :
    Calls Tryd.prog 25 #[v, .int .i64 x1] w fun e w' => e = .returned (.tuple #[.int .i64 (cmV x0 x1), .int .i64 (cmC x0 x1)]) ∧ Below w.heap.size w w' := by
  have HI := Lib.hid h
  obtain ⟨a, cap, rfl, hat, hca, hcb⟩ := h.at'
  have MM := modelsOf_any x0 a cap w hl hat hT
  clear h hat hT
  by_cases hc : ck x0 = 0
  · obtain ⟨hb0, hp0⟩ := ck_good hc
    obtain ⟨va1, va2⟩ := va_good hb0
    rw [hc, mwR_good hc] at MM
    have C := Lib.hid MM
    have VO := Lib.hid (fun W (hW : InN W lo hi (.slice a x0.length cap) x0) => implVariablesOf_v x0 _ lo hi W hl hW)
    obtain ⟨zs, hzs⟩ : ∃ zs, zs = vaL x0 := ⟨_, rfl⟩
    rw [va1, va2, show memTo (mkTo x0 x0.length) 30 = vaL x0 from rfl, ← hzs] at VO
    have zl : zs.length ≤ 30 := by rw [hzs]; exact memTo_len _ 30
    have UP := Lib.hid (show zs.Pairwise (· < ·) by rw [hzs]; exact vaL_up x0)
    have xlt := (toFm x0).mw.isLt
    cases hin : inB x1 0 6
    · obtain ⟨e1, e2⟩ := cm_rng hc hin
      rw [e1, e2]
      have hx : x1 < 0 ∨ ¬ x1 < 0 ∧ 6 < x1 := by simp [inB] at hin; omega
      clear MM hc hin e1 e2 hb0 hp0 va1 va2 hzs xlt
      generalize U (toFm x0).mw = y at C
      rcases hx with hx | ⟨hx, hx2⟩
      all_goals
        go_enter Tryd.func25, Tryd.ntmps25
        go_wp2_with fail
        refine C.out.mono ?_
        rintro e w1 ⟨rfl, hb1⟩
        have B1 := Lib.hid hb1
        have I1 := Lib.hid (HI.out.below hb1 HI.out.2.1)
        clear hb1
        go_wp2_with fail
        refine (VO.out w1 I1.out).mono ?_
        rintro e w2 ⟨v2, rfl, ho2, hb2⟩
        obtain ⟨a2, cap2, rfl, -, -, -, -⟩ := ho2.at
        have B2 := Lib.hid (B1.out.trans (hb2.mono B1.out.size))
        clear hb2 ho2
        go_wp2
        go_ret2
        exact ⟨rfl, B2.out⟩
    · have hn6 : 0 ≤ x1 ∧ x1 ≤ 6 := by simpa [inB] using hin
      obtain ⟨hn0, hn6⟩ := hn6
      cases hla : laB zs x1
      · obtain ⟨e1, e2⟩ := cm_good2 hc hin (by rw [← hzs]; exact hla)
        rw [e1, e2]
        obtain ⟨n, rfl⟩ : ∃ n : Nat, x1 = n := ⟨x1.toNat, by omega⟩
        rw [Int.toNat_natCast]
        have f1 := (toFm_of hb0).1
        have E := cnF_shift (toFm x0) f1 (vb_of hc (by rw [← hzs]; exact hla)) (show n ≤ 6 by omega)
        rw [← pop_mw _ f1] at E
        unfold U at C
        have CB := Lib.hid (fun W => countBits8_any (toFm x0).mw.toNat xlt W)
        have pl := cnF_le (toFm x0) 64
        rw [← pop_mw _ f1] at pl
        generalize cnF (toFm x0) (2 ^ n) = r at E ⊢
        generalize (toFm x0).mw.toNat = x at C E CB xlt pl
        generalize pop x = p at E CB pl
        have hla2 : ∀ y, 0 < zs.length → y = nth zs (zs.length - 1) → ¬ (n : Int) ≤ y := fun y h0 hy => by
          unfold laB at hla
          rw [decide_eq_true h0, ← hy] at hla
          simpa using hla
        have LA := Lib.hid hla2
        clear MM hc hin e1 e2 hb0 hp0 va1 va2 hzs hla hla2 f1 hn0
        have hn : n = 0 ∨ n = 1 ∨ n = 2 ∨ n = 3 ∨ n = 4 ∨ n = 5 ∨ n = 6 := by omega
        clear hn6
        rcases hn with rfl | rfl | rfl | rfl | rfl | rfl | rfl
        all_goals
          simp only [Nat.reducePow, Nat.reduceSub] at E
          go_enter Tryd.func25, Tryd.ntmps25
          go_wp2_with fail
          refine C.out.mono ?_
          rintro e w1 ⟨rfl, hb1⟩
          have B1 := Lib.hid hb1
          have I1 := Lib.hid (HI.out.below hb1 HI.out.2.1)
          clear hb1
          go_wp2_with fail
          refine (VO.out w1 I1.out).mono ?_
          rintro e w2 ⟨v2, rfl, ho2, hb2⟩
          obtain ⟨a2, cap2, rfl, hat2, -, -, -⟩ := ho2.at
          have B2 := Lib.hid (B1.out.trans (hb2.mono B1.out.size))
          have A2 := Lib.hid hat2
          clear hb2 ho2 hat2
          by_cases h0 : zs.length = 0
          · rw [h0]
            go_wp2_with fail
            refine (CB.out w2).mono ?_
            rintro e w' ⟨rfl, rfl⟩
            go_wp2
            go_ret2
            exact ⟨ret_ii (by omega) rfl, B2.out⟩
          · have MX := Lib.hid (slMax_any zs UP.out a2 zs.length cap2 w2 (by omega) (by omega) A2.out)
            have hny := LA.out _ (by omega) rfl
            have hz0 : 0 < zs.length := by omega
            generalize nth zs (zs.length - 1) = y at MX hny
            go_wp2_with fail
            refine MX.out.mono ?_
            rintro e w' ⟨rfl, rfl⟩
            go_wp2_with fail
            refine (CB.out w2).mono ?_
            rintro e w' ⟨rfl, rfl⟩
            go_wp2
            go_ret2
            exact ⟨ret_ii (by omega) rfl, B2.out⟩
      · obtain ⟨e1, e2⟩ := cm_var hc hin (by rw [← hzs]; exact hla)
        rw [e1, e2]
        have hla2 : 0 < zs.length ∧ x1 ≤ nth zs (zs.length - 1) := by simpa [laB] using hla
        obtain ⟨hz0, hz1⟩ := hla2
        clear MM hc hin e1 e2 hb0 hp0 va1 va2 hzs xlt hla
        generalize U (toFm x0).mw = y0 at C
        go_enter Tryd.func25, Tryd.ntmps25
        go_wp2_with fail
        refine C.out.mono ?_
        rintro e w1 ⟨rfl, hb1⟩
        have B1 := Lib.hid hb1
        have I1 := Lib.hid (HI.out.below hb1 HI.out.2.1)
        clear hb1
        go_wp2_with fail
        refine (VO.out w1 I1.out).mono ?_
        rintro e w2 ⟨v2, rfl, ho2, hb2⟩
        obtain ⟨a2, cap2, rfl, hat2, -, -, -⟩ := ho2.at
        have B2 := Lib.hid (B1.out.trans (hb2.mono B1.out.size))
        have MX := Lib.hid (slMax_any zs UP.out a2 zs.length cap2 w2 (by omega) hz0 hat2)
        generalize nth zs (zs.length - 1) = y at MX hz1
        clear hb2 ho2 hat2
        go_wp2_with fail
        refine MX.out.mono ?_
        rintro e w' ⟨rfl, rfl⟩
        go_wp2
        go_ret2
        exact ⟨rfl, B2.out⟩
  · obtain ⟨e1, e2⟩ := cm_ck (n := x1) hc
    rw [e1, e2]
    rw [mwR_bad hc] at MM
    have C := Lib.hid MM
    have hne : (ck x0 == 0) = false := by simpa using hc
    generalize ck x0 = z at C hne ⊢
    clear MM hc e1 e2
    go_enter Tryd.func25, Tryd.ntmps25
    go_wp2_with fail
    refine C.out.mono ?_
    rintro e w1 ⟨rfl, hb1⟩
    have B1 := Lib.hid hb1
    clear hb1
    go_wp2
    go_ret2
    exact ⟨rfl, B1.out⟩

end Go.Proofs.YtfpnmeacnhcakaaDoor
