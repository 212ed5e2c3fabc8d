/- What the model answers for local consequences: its loop over the models. Conditions: those in the theorems. -/
import Derived.Test.YtnoaaklkbfbdbaaJn18
import Derived.Test.YtnoaaklkbfbdbaaJn16
import Derived.Test.YtnoaaklkbfbdbaaJn10
namespace Go.Proofs.Ytnoaaklkbfbdbaa
open Go.RowKit

theorem ctF_in {xs ys : List Int} (h8 : xs.length ≤ 8) (hr : Rel xs.length (nth xs)) (hy : ∀ i, InMk xs.length (nth ys i)) (xss : List (List Nd)) : ∀ k, InMk xs.length (ctF xs ys xss k)
  | 0 => InMk.full (by omega)
  | k + 1 => InMk.an (by omega) (ctF_in h8 hr hy xss k) (tr_in (by omega) hr hy _)
theorem lo_eq {n : Nat} (hn : n ≤ 30) {x t : Int} (hx : InMk n x) (ht : InMk n t) : bits .andNot .i64 x t = bits .and .i64 x (bits .andNot .i64 (full n) t) := by
  have hf := InMk.full hn
  refine T_ext (InMk.not hn hx ht) (InMk.an hn hx (InMk.not hn hf ht)) fun i => ?_
  rw [T_not hn hx ht, T_an hn hx (InMk.not hn hf ht), T_not hn hf ht, T_full hn]
  by_cases h : i < n
  · rw [decide_eq_true h]; simp
  · rw [T_high hx (by omega)]; simp

set_option maxHeartbeats 8000000 in
set_option maxRecDepth 100000 in
theorem l06FollowsL_any (xs : List Int) (xss : List (List Nd)) (zs : List Nd) (a0 : Option Addr) (c0 : Nat) (p : Option Addr) (c b1 o1 c1 : Nat) (w : World) (h8 : xs.length ≤ 8) (h16 : xs.length * (vrM (xss ++ [zs]) (xss.length + 1)).length ≤ 16) (hr : Rel xs.length (nth xs)) (hok : okAll (xss ++ [zs]) (xss.length + 1) = true) (hl : xss.length ≤ 1048576) (hi : ∀ j, j < xss.length + 1 → (nthL (xss ++ [zs]) j).length ≤ 1048576)
    (hx : At w a0 xs.length xs) (h : AtNC w p xss.length xss) (hz : AtN w (some ⟨b1, o1, none⟩) zs.length zs) (hc1 : zs.length ≤ c1) (hc2 : c1 ≤ maxLen) (hf : AtF w b1 o1 zs.length c1 (toFm zs)) :
    Calls Try.prog 49 #[.agg #[.int .i64 xs.length, .slice a0 xs.length c0], .slice p xss.length c, .slice (some ⟨b1, o1, none⟩) zs.length c1, .bool false] w fun e w' => e = .returned (.bool (noB (fun k => loB xs (vlL xs.length (vrM (xss ++ [zs]) (xss.length + 1)) k) xss xss.length zs) (cqN xs xss zs))) ∧ Below w.heap.size w w' := by
  obtain ⟨W, hW, HB, X, HS⟩ : ∃ W : World, W = w.alloc (.cells #[.int .i64 xs.length, .slice a0 xs.length c0] 30) ∧ Hid (Below w.heap.size w W) ∧ Hid (Bx W w.heap.size xs.length a0 xs.length c0) ∧ Hid (W.heap.size = w.heap.size + 1) := ⟨_, rfl, Lib.hid (alloc_keep _ _).1, Lib.hid (Bx.new _ _ _ _ _ _), Lib.hid (by simp)⟩
  have H0 := Lib.hid (hx.keep HB.out (Nat.le_refl _))
  have H := Lib.hid (h.keep HB.out (Nat.le_refl _))
  have HZ := Lib.hid (hz.keep HB.out (Nat.le_refl _))
  have HF := Lib.hid (hf.keep HB.out (Nat.le_refl _))
  have HW := Lib.hid hW
  have HI := Lib.hid (hi_pre hi)
  have OKY := Lib.hid hok
  obtain ⟨okx, okz⟩ := okAll_pre hok
  have OKX := Lib.hid okx
  have ISB := Lib.hid okz
  have VV := Lib.hid (vrM_vs hok)
  have REL := Lib.hid hr
  have H16 := Lib.hid h16
  have H8 := Lib.hid h8
  have W0 := Lib.hid (show (W.alloc (.cells #[] 32)).ownsRow W.heap.size 32 1 (.slice (some ⟨w.heap.size + 1, 0, none⟩) 0 0) 0 [] by rw [← HS.out]; exact World.ownsRow_made W #[] 0 (Nat.le_refl _) (Nat.zero_le _) rfl)
  have B0 := Lib.hid ((Below.refl W.heap.size W).alloc (Nat.le_refl _) (.cells #[] 32))
  clear hx h hz hf hW hi hok okx okz hr h16 h8
  go_enter Try.func49, Try.ntmps49
  go_wp2_with (at_builtin; rw [← HW.out]; refine list_appSh (wr := W) rfl _ _ rfl W.heap.size (w.heap.size + 1) 0 rfl W0.out xss p xss.length c rfl H.out (Nat.le_refl _) B0.out hl B0.out.size ?_)
  intro v1 w1 us hr1 hsh1 hb1 hs1
  have R1 := Lib.hid hr1
  have S1 := Lib.hid hsh1
  have B1 := Lib.hid hb1
  have HS1 := Lib.hid hs1
  clear hr1 hsh1 hb1 hs1 W0 B0
  go_wp2_with (at_builtin; refine list_appSh1 (wr := W) (w1 := w1) rfl _ _ rfl W.heap.size v1 rfl us xss xss.length R1.out S1.out rfl (Nat.le_refl _) B1.out HS1.out hl (some ⟨b1, o1, none⟩) zs c1 HZ.out hc1 hc2 _ rfl 1 rfl ?_)
  intro a2 c2 w2 hat2 hb2 hs2
  have A2 := Lib.hid hat2.nn
  have T2 := Lib.hid hb2
  clear hat2 hb2 hs2 R1 S1 B1 HS1
  obtain ⟨yss, hy⟩ : ∃ yss, yss = xss ++ [zs] := ⟨_, rfl⟩
  have YY := Lib.hid hy
  have A3 := Lib.hid (show AtNN w2 a2 (xss.length + 1) yss by rw [hy]; exact A2.out)
  have LVV := Lib.hid (l06Variables_any yss a2 (xss.length + 1) c2 w2 (by omega) (by rw [hy]; exact OKY.out) A3.out)
  rw [← hy] at VV H16
  clear hy A2
  go_wp2_with fail
  refine LVV.out.mono ?_
  rintro e w3 ⟨v3, rfl, ho, hb⟩
  obtain ⟨av, cv, rfl, hav, -⟩ := ho.at
  have AV := Lib.hid hav
  have T3 := Lib.hid (T2.out.trans (hb.mono T2.out.size))
  clear hb ho hav
  rw [show memTo (mkL yss (xss.length + 1)) 30 = vrM yss (xss.length + 1) from rfl] at AV ⊢
  obtain ⟨vs, hvs⟩ : ∃ vs, vs = vrM yss (xss.length + 1) := ⟨_, rfl⟩
  rw [← hvs] at AV VV H16 ⊢
  have VSE := Lib.hid hvs
  obtain ⟨n, hn⟩ : ∃ n, n = xs.length := ⟨_, rfl⟩
  obtain ⟨cc, hc⟩ : ∃ c, c = vs.length := ⟨_, rfl⟩
  have NN := Lib.hid hn
  have CC := Lib.hid hc
  obtain ⟨M, hM⟩ : ∃ M : Nat, M = n * cc := ⟨_, rfl⟩
  have hM16 : M ≤ 16 := by have := H16.out; rw [← hn, ← hc] at this; rw [hM]; exact this
  have hM' : (n : Int) * (cc : Int) = (M : Int) := by rw [hM]; simp
  have hwm : IntKind.i64.wrap ((n : Int) * (cc : Int)) = (M : Int) := by rw [hM', IntKind.wrap_i64]; omega
  obtain ⟨N, hN⟩ : ∃ N : Nat, N = 2 ^ M := ⟨_, rfl⟩
  have hN16 : N ≤ 65536 := by rw [hN]; exact Nat.pow_le_pow_right (show 0 < 2 by omega) hM16
  have ONE := Lib.hid (fun w' => show Calls Try.prog 38 #[.int .i64 (M : Int)] w' fun e w'' => e = .returned (.int .i64 (N : Int)) ∧ w' = w'' by
    have q := l01One_any (M : Int) w' (by omega) (by omega)
    rw [one_16 hM16, ← hN] at q
    exact q)
  obtain ⟨pr, hpr⟩ : ∃ pr : Nat → Bool, pr = fun k => loB xs (vlL xs.length vs k) xss xss.length zs := ⟨_, rfl⟩
  have PR := Lib.hid hpr
  have RV := Lib.hid (fun b (hb : noB pr N = b) => show Ending.returned (.bool b) = .returned (.bool (noB (fun k => loB xs (vlL xs.length (vrM (xss ++ [zs]) (xss.length + 1)) k) xss xss.length zs) (cqN xs xss zs))) by
    rw [cqN, ← YY.out, ← hvs, ← hpr, ← hc, ← hn, ← hM, ← hN, hb])
  have X' := Lib.hid (X.out.keep T3.out)
  have n8 : n ≤ 8 := by have := H8.out; omega
  have c6 : cc ≤ 6 := by have := VV.out.l6; omega
  rw [← hn] at X' H0 ⊢
  rw [← hc]
  clear hn hc hM hM' hN X hvs hpr LVV A3
  have n0 : 0 ≤ (n : Int) := by omega
  have n30 : (n : Int) ≤ 30 := by omega
  obtain ⟨lt0, x0, x1⟩ := X'.out
  go_wp2_with (first | (go_at_call 40; refine (l01Full_any _ _ n0 n30).mono ?_; rintro e w' ⟨rfl, rfl⟩) | fail)
  clear x0 x1 lt0
  go_loopg [11] (N + 1) (fun g i wr => ∃ k : Nat, k ≤ N ∧ i = .int .i64 k ∧ N < k + g ∧ Hid (Below w3.heap.size w3 wr) ∧ Hid (∀ j, j < k → pr j = false))
  case atStart => exact ⟨0, Nat.zero_le _, rfl, by omega, Lib.hid (Below.refl _ _), Lib.hid fun j hj => absurd hj (Nat.not_lt_zero _)⟩
  case round =>
    obtain ⟨k, hk, rfl, hg, B, ZE⟩ := hrel
    by_cases hlt : k < N
    · obtain ⟨lt0, x0, x1⟩ := X'.out.keep B.out
      have LV := Lib.hid (fun w' (hw : Below wr.heap.size wr w') => show Calls Try.prog 39 #[.agg #[.int .i64 n, .slice a0 n c0], .slice av cc cv, .int .i64 k] w' fun e w'' => ∃ v, e = .returned v ∧ Own w'' w'.heap.size v (vlL n vs k) ∧ Below w'.heap.size w' w'' by
        have q := l06Values_any n k vs a0 n c0 av cv w' n8 VV.out (by omega) ((AV.out.keep B.out (Nat.le_refl _)).keep hw (Nat.le_refl _))
        rw [← CC.out] at q
        exact q)
      have LN := Lib.hid (vlL_len n vs k)
      obtain ⟨ys, hy⟩ : ∃ ys, ys = vlL n vs k := ⟨_, rfl⟩
      have HY := Lib.hid hy
      rw [← hy] at LV LN
      obtain ⟨m, hm⟩ : ∃ m, m = gk - 1 := ⟨_, rfl⟩
      have m1' : N < k + 1 + m := by omega
      have m2' : m < gk := by omega
      clear hy hm
      go_wp2_with (go_at_call 38; refine (ONE.out _).mono ?_; rintro e w' ⟨rfl, rfl⟩)
      go_cut [12] (fun s wx => ∃ (b : Nat) (a' : Option Addr) (c' : Nat), s = .pointer (some ⟨b, 0, none⟩) ∧ Hid (PrX wr wx b n a0 n c0 a' c' ys))
      case first =>
        go_region_held3 (fun w' => w'.cell? ⟨w.heap.size, 0, none⟩ = some (.int .i64 n) ∧ w'.cell? ⟨w.heap.size, 1, none⟩ = some (.slice a0 n c0)) (first | exact ⟨y0, y1⟩ | exact ⟨x0, x1⟩ | exact ⟨three_set y0 (by omega), three_set y1 (by omega)⟩ | go_keep | (refine ⟨?_, ?_⟩ <;> simp [*])) (first | (go_at_call 39; refine (LV.out _ (Below.refl _ _).drew).mono ?_; rintro e w4 ⟨v4, rfl, ho, hb⟩; have O4 := Lib.hid ho; obtain ⟨a4, c4, e4, -⟩ := ho.at; rw [LN.out] at e4; subst e4; have T4 := Lib.hid (show Below wr.heap.size wr w4 from below_of_drew hb); have zC := Lib.hid (ZoM.no w4 wr); have sC := T4.out.size; clear ho hb; obtain ⟨ly, y0, y1⟩ := X'.out.keep (B.out.trans (T4.out.mono B.out.size))) | (go_at_call 39; refine (LV.out _ ((Below.refl wr.heap.size wr).drew.alloc (Nat.le_refl _) _)).mono ?_; rintro e w4 ⟨v4, rfl, ho, hb⟩; have O4 := Lib.hid ho; obtain ⟨a4, c4, e4, -⟩ := ho.at; rw [LN.out] at e4; subst e4; have T4 := Lib.hid (show Below wr.heap.size wr w4 from below_of_drew (below_al (Nat.le_refl _) hb)); have zC := Lib.hid (show ZoM w4 wr (some wr.heap.size) from ZoM.new (W := wr) (w := wr.drew) (Nat.le_refl _) hb); have sC := T4.out.size; have sC2 : wr.heap.size + 1 ≤ w4.heap.size := (by have q := hb.size; simpa using q); clear ho hb; obtain ⟨zl, z0, z1, z2, z3, z4, z5⟩ := (zC.out _ rfl).1.all; obtain ⟨ly, y0, y1⟩ := X'.out.keep (B.out.trans (T4.out.mono B.out.size))))
        all_goals (try go_wp2_with fail)
        all_goals go_meet
        all_goals first | exact ⟨_, _, _, rfl, Lib.hid (PrX.late sC T4.out LN.out O4.out)⟩ | exact ⟨_, _, _, rfl, Lib.hid (PrX.early (Nat.le_refl _) (by simp) T4.out (zC.out _ rfl).1 LN.out O4.out)⟩
      case rest =>
        rename World => wz
        obtain ⟨b, a', c', rfl, P⟩ := hcut
        obtain ⟨hbw, hbm, hat⟩ := P.out
        have P1 := Lib.hid (B.out.trans (hbw.mono B.out.size))
        have BM := Lib.hid hbm
        have MO := Lib.hid (show Mo wz (n : Int) a0 a' xs ys from by
          have hA := H0.out.keep (T3.out.trans (P1.out.mono T3.out.size)) (Nat.le_refl _)
          have h8' : xs.length ≤ 8 := H8.out
          rw [HY.out] at hat ⊢
          rw [NN.out] at hA hat ⊢
          exact ⟨rfl, h8', ⟨(mksTo_iff (by omega) _ _).2 fun i _ => REL.out i, vlL_mks _ (by omega) _ _⟩, vlL_len _ _ _, hA, by rw [vlL_len]; exact hat⟩)
        have HC := Lib.hid (H.out.keep (T3.out.trans (P1.out.mono T3.out.size)) (Nat.le_refl _))
        have FC0 := Lib.hid (show full (n : Int) = ctF xs ys xss 0 by rw [NN.out]; rfl)
        clear hbw hbm hat x0 x1 lt0
        go_wp2
        go_loopw [13, 14] (fun s i wr2 => ∃ j : Nat, j ≤ xss.length ∧ i = .int .i64 j ∧ s = .int .i64 (ctF xs ys xss j) ∧ Hid (Below wz.heap.size wz wr2)) (fun _ i _ => xss.length - (intOf i).toNat)
        case atStart => exact ⟨0, Nat.zero_le _, rfl, congrArg (Value.int .i64) FC0.out, Lib.hid (Below.refl _ _)⟩
        case round =>
          obtain ⟨j, hj, rfl, rfl, B2⟩ := hrel
          obtain ⟨wi, rfl⟩ : ∃ x, x = wr := ⟨_, rfl⟩
          obtain ⟨lb, m0, m1, m2⟩ := BM.out.keep B2.out
          by_cases hjl : j < xss.length
          · have A := Lib.hid (HC.out.keep B2.out (Nat.le_refl _))
            obtain ⟨pb, po, rfl⟩ : ∃ b o, p = some ⟨b, o, none⟩ := by
              obtain ⟨-, us2, -, h3⟩ := A.out
              obtain ⟨b, o, e, -⟩ := h3.resolve_left (by omega)
              exact ⟨b, o, e⟩
            have hpb := (A.out.at hjl).1
            obtain ⟨bq, oq, cq, hcell, hF⟩ := A.out.fm hjl (okAll_at OKX.out hjl)
            have F := Lib.hid hF
            have hki := HI.out.1 j hjl
            obtain ⟨y, hy⟩ : ∃ y, y = (toFm (nthL xss j)).tr xs ys := ⟨_, rfl⟩
            have TR := Lib.hid (fun w' (hw : Below wi.heap.size wi w') => show Calls Try.prog 41 #[.agg #[.int .i64 n, .slice a0 n c0, .slice a' 6 c'], .slice (some ⟨bq, oq, none⟩) (nthL xss j).length cq] w' fun e w'' => e = .returned (.int .i64 y) ∧ Below w'.heap.size w' w'' by
              have q := l06Truth_any (toFm (nthL xss j)) (toFm_of (okAll_at OKX.out hjl)).1 n xs ys a0 c0 a' c' bq oq _ cq w' hki ((MO.out.keep B2.out).keep hw) (F.out.keep hw (Nat.le_refl _))
              rw [← NN.out, LN.out, ← hy] at q
              exact q)
            have NX := Lib.hid (show bits .and .i64 (ctF xs ys xss j) y = ctF xs ys xss (j + 1) by rw [ctF, hy])
            obtain ⟨z, hz⟩ : ∃ z, z = ctF xs ys xss j := ⟨_, rfl⟩
            rw [← hz] at NX
            obtain ⟨mm, hmm⟩ : ∃ m, m = (nthL xss j).length := ⟨_, rfl⟩
            rw [← hmm] at hcell TR
            rw [← hz]
            have KC := Lib.hid (fun w' (hw : Below wi.heap.size wi w') => (hw.cell (p := ⟨pb, po + j, none⟩) (World.block_lt_of_cell? _ _ hcell)).trans hcell)
            have BMi := Lib.hid (BM.out.keep B2.out)
            have hjl' : (j : Int) < (xss.length : Int) := by omega
            clear hF hy hz hmm hki
            go_wp2
            go_region_held3 (fun w' => w'.cell? ⟨b, 0, none⟩ = some (.int .i64 n) ∧ w'.cell? ⟨b, 1, none⟩ = some (.slice a0 n c0) ∧ w'.cell? ⟨b, 2, none⟩ = some (.slice a' 6 c') ∧ w'.cell? ⟨pb, po + j, none⟩ = some (.slice (some ⟨bq, oq, none⟩) mm cq)) (first | exact ⟨p0, p1, p2, p3⟩ | exact ⟨m0, m1, m2, hcell⟩ | go_keep) (first | (go_at_call 41; refine (TR.out _ (Below.refl _ _).drew).mono ?_; rintro e w5 ⟨rfl, hb⟩; have T5 := Lib.hid (show Below wi.heap.size wi w5 from below_of_drew hb); clear hb; obtain ⟨lp, p0, p1, p2⟩ := BMi.out.keep T5.out; have p3 := KC.out _ T5.out))
            all_goals
              go_wp2
              go_roundw
              case rel => exact ⟨j + 1, hjl, by go_num, by rw [← NX.out], Lib.hid (B2.out.trans (T5.out.mono B2.out.size))⟩
              case measure => simp [intOf]; omega
          · obtain rfl : j = xss.length := by omega
            obtain ⟨t, ht⟩ : ∃ t, t = (toFm zs).tr xs ys := ⟨_, rfl⟩
            have P2 := Lib.hid (P1.out.trans (B2.out.mono P1.out.size))
            have TT := Lib.hid (show Calls Try.prog 41 #[.agg #[.int .i64 n, .slice a0 n c0, .slice a' 6 c'], .slice (some ⟨b1, o1, none⟩) zs.length c1] wi fun e w' => e = .returned (.int .i64 t) ∧ Below wi.heap.size wi w' by
              have q := l06Truth_any (toFm zs) (toFm_of ISB.out).1 n xs ys a0 c0 a' c' b1 o1 zs.length c1 wi HI.out.2 (MO.out.keep B2.out) (HF.out.keep (T3.out.trans (P2.out.mono T3.out.size)) (Nat.le_refl _))
              rw [← NN.out, LN.out, ← ht] at q
              exact q)
            obtain ⟨ct, hct⟩ : ∃ z, z = ctF xs ys xss xss.length := ⟨_, rfl⟩
            have PK := Lib.hid (show (bits .andNot .i64 ct t != 0) = pr k by
              have hym : ∀ i, InMk xs.length (nth ys i) := fun i => by rw [HY.out, NN.out]; exact vlL_in _ _ _ i
              rw [PR.out, hct, ht, lo_eq (show xs.length ≤ 30 from Nat.le_trans H8.out (by decide)) (ctF_in H8.out REL.out hym xss _) (tr_in (Nat.le_trans H8.out (by decide)) REL.out hym _), HY.out, NN.out]
              rfl)
            rw [← hct]
            clear ht hct
            go_wp2_with fail
            refine TT.out.mono ?_
            rintro e w5 ⟨rfl, hb⟩
            have T5 := Lib.hid (P2.out.trans (hb.mono P2.out.size))
            clear hb m0 m1 m2 lb
            obtain ⟨d, hd⟩ : ∃ d, d = bits .andNot .i64 ct t := ⟨_, rfl⟩
            rw [← hd] at PK
            have DD2 := Lib.hid hd.symm
            clear hd
            cases hq : (d == 0)
            · have hq2 : (d != 0) = true := by rw [bne, hq]; rfl
              have FN := Lib.hid (RV.out false (noB_false hlt (by rw [← PK.out, hq2])))
              have e1 := DD2.out
              go_wp2
              go_ret
              exact ⟨FN.out, HB.out.trans ((T3.out.trans (T5.out.mono T3.out.size)).mono HB.out.size)⟩
            · have hq2 : (d != 0) = false := by rw [bne, hq]; rfl
              have PF := Lib.hid (show pr k = false by rw [← PK.out, hq2])
              have e1 := DD2.out
              go_wp2
              go_roundg m
              case measure => exact m2'
              case rel => exact ⟨k + 1, hlt, by go_num, m1', T5, Lib.hid fun j hj => by rcases Nat.lt_succ_iff_lt_or_eq.1 hj with e | e; exact ZE.out j e; subst e; exact PF.out⟩
    · obtain rfl : k = N := by omega
      obtain ⟨lt0, x0, x1⟩ := X'.out.keep B.out
      go_wp2_with (go_at_call 38; refine (ONE.out _).mono ?_; rintro e w' ⟨rfl, rfl⟩)
      go_ret
      exact ⟨RV.out true (noB_true ZE.out), HB.out.trans ((T3.out.trans (B.out.mono T3.out.size)).mono HB.out.size)⟩

end Go.Proofs.Ytnoaaklkbfbdbaa
