/- The walk of the law FnClosures. Conditions: those in the theorems. -/
import Derived.Test.YtpedinmflhgcoaaClL
import Derived.Test.YtpedinmflhgcoaaDcg
namespace Go.Proofs.Ytpedinmflhgcoaa
open Go.RowKit

theorem At_of_OwnF {w : World} {B : Nat} {v : Value} {n : Int} {xs : List Int} (h : OwnF w B v n xs) : ∃ a cap, v = .agg #[.int .i64 n, .slice a xs.length cap] ∧ At w a xs.length xs ∧ (a = none → cap = 0) := by
  obtain ⟨a, cap, e, hat, -, hn, -⟩ := h.2.at
  exact ⟨a, cap, by rw [h.1, e], hat, hn⟩

set_option maxHeartbeats 8000000 in
set_option maxRecDepth 100000 in
theorem lawClosures (a : Option Addr) (len cap : Nat) (zs : List Int) (w0 : World) (h : IsRow .u8 w0 a len cap zs) :
    Calls Try.prog 7 #[.slice a len cap] w0 fun e w' => e = .returned (.bool true) ∧ Below w0.heap.size w0 w' := by
  by_cases hbig : 4096 < len
  · clear h
    go_enter Try.func7, Try.ntmps7
    go_wp2_with (go_at_call 17; refine (bigF1 _ _ _ _ hbig).mono ?_; rintro e w' ⟨rfl, rfl⟩)
    go_ret
    exact ⟨rfl, Below.refl _ _⟩
  have hl4 : len ≤ 4096 := by omega
  have DC := Lib.hid (DrawCloseFrame_any a len cap w0 (Code.of_row h hl4))
  have B0 := Lib.hid (Below.refl w0.heap.size w0)
  clear h hbig
  go_enter Try.func7, Try.ntmps7
  go_wp2_with (go_at_call 17; refine (bigF0 _ _ _ _ hl4).mono ?_; rintro e w' ⟨rfl, rfl⟩)
  refine DC.out.mono ?_
  rintro e w1 ⟨⟨v, n, xs, f, rfl, ho, hx9, hf0, hf1⟩, hb⟩
  obtain ⟨ax, cx, rfl, hat, hn0⟩ := At_of_OwnF ho
  have HN := Lib.hid hn0
  clear ho hn0
  have z1 : w0.heap.size ≤ w1.heap.size := hb.size
  have B1 := Lib.hid (B0.out.trans (hb.mono B0.out.size))
  clear hb
  have Lx := Lib.hid (show At w1 ax xs.length xs from hat)
  clear hat
  have hl : xs.length ≤ 1048576 := by omega
  go_wp2_with fail
  obtain ⟨vx, hvx, hb, hq⟩ : ∃ V, V = w1.alloc (.cells #[.int .i64 n, .slice ax xs.length cx] 40) ∧ Below w1.heap.size w1 V ∧ Bx V w1.heap.size n ax xs.length cx := ⟨_, rfl, (alloc_keep _ _).1, Bx.new _ _ _ _ _ _⟩
  rw [← hvx]
  clear hvx
  have hq' := Lib.hid hq
  clear hq
  have z2 : w1.heap.size ≤ vx.heap.size := hb.size
  have B2 := Lib.hid (B1.out.trans (hb.mono B1.out.size))
  have Lx_2 := Lib.hid (Lx.out.keep hb (Nat.le_refl _))
  clear Lx
  clear hb
  have Xx := Lib.hid hq'.out
  clear hq'
  obtain ⟨ys, hys⟩ : ∃ ys, ys = clY n xs f := ⟨_, rfl⟩
  obtain ⟨c, hc⟩ : ∃ c, c = clC n xs f := ⟨_, rfl⟩
  have hly : ys.length ≤ 1048576 := by rw [hys]; exact CloseFrame_len n xs f
  have YS := Lib.hid hys
  have CS := Lib.hid hc
  clear hys hc
  refine (implCloseFrame_any n f xs _ _ _ _ _ hl (eps_ok n xs) Lx_2.out).mono ?_
  rw [show clL n xs (Classical.epsilon (EuSpec xs)) f = ys from YS.out.symm, ← CS.out]
  rintro e w2 ⟨⟨v2, rfl, ho⟩, hb⟩
  obtain ⟨ay, cy, rfl, hat, -⟩ := At_of_OwnF ho
  clear ho
  have z3 : vx.heap.size ≤ w2.heap.size := hb.size
  have B3 := Lib.hid (B2.out.trans (hb.mono B2.out.size))
  have Xx_3 := Lib.hid (Xx.out.keep hb)
  have Lx_3 := Lib.hid (Lx_2.out.keep hb (Nat.le_refl _))
  clear Xx
  clear Lx_2
  clear hb
  have Ly := Lib.hid (show At w2 ay ys.length ys from hat)
  clear hat
  obtain ⟨lt0, ca0, cb0⟩ := Xx_3.out
  go_wp2_with fail
  clear lt0 ca0 cb0
  obtain ⟨vy, hvy, hb, hq⟩ : ∃ V, V = w2.alloc (.cells #[.int .i64 ys.length, .slice ay ys.length cy] 40) ∧ Below w2.heap.size w2 V ∧ Bx V w2.heap.size ys.length ay ys.length cy := ⟨_, rfl, (alloc_keep _ _).1, Bx.new _ _ _ _ _ _⟩
  rw [← hvy]
  clear hvy
  have hq' := Lib.hid hq
  clear hq
  have z4 : w2.heap.size ≤ vy.heap.size := hb.size
  have B4 := Lib.hid (B3.out.trans (hb.mono B3.out.size))
  have Xx_4 := Lib.hid (Xx_3.out.keep hb)
  have Lx_4 := Lib.hid (Lx_3.out.keep hb (Nat.le_refl _))
  have Ly_4 := Lib.hid (Ly.out.keep hb (Nat.le_refl _))
  clear Xx_3
  clear Lx_3
  clear Ly
  clear hb
  have Xy := Lib.hid hq'.out
  clear hq'
  refine (specCloseFrame_any n f xs _ _ _ _ hl (eps_ok n xs) Lx_4.out HN.out).mono ?_
  rw [show clL n xs (Classical.epsilon (EuSpec xs)) f = ys from YS.out.symm, ← CS.out]
  rintro e w3 ⟨⟨v3, rfl, ho⟩, hb⟩
  obtain ⟨ar, cr, rfl, hat, -⟩ := At_of_OwnF ho
  clear ho
  have z5 : vy.heap.size ≤ w3.heap.size := hb.size
  have B5 := Lib.hid (B4.out.trans (hb.mono B4.out.size))
  have Xx_5 := Lib.hid (Xx_4.out.keep hb)
  have Xy_5 := Lib.hid (Xy.out.keep hb)
  have Lx_5 := Lib.hid (Lx_4.out.keep hb (Nat.le_refl _))
  have Ly_5 := Lib.hid (Ly_4.out.keep hb (Nat.le_refl _))
  clear Xx_4
  clear Xy
  clear Lx_4
  clear Ly_4
  clear hb
  have Lr := Lib.hid (show At w3 ar ys.length ys from hat)
  clear hat
  obtain ⟨lt0, ca0, cb0⟩ := Xx_5.out
  obtain ⟨lt1, ca1, cb1⟩ := Xy_5.out
  go_wp2_with fail
  clear lt0 ca0 cb0 lt1 ca1 cb1
  obtain ⟨vr, hvr, hb, hq⟩ : ∃ V, V = w3.alloc (.cells #[.int .i64 ys.length, .slice ar ys.length cr] 40) ∧ Below w3.heap.size w3 V ∧ Bx V w3.heap.size ys.length ar ys.length cr := ⟨_, rfl, (alloc_keep _ _).1, Bx.new _ _ _ _ _ _⟩
  rw [← hvr]
  clear hvr
  have hq' := Lib.hid hq
  clear hq
  have z6 : w3.heap.size ≤ vr.heap.size := hb.size
  have B6 := Lib.hid (B5.out.trans (hb.mono B5.out.size))
  have Xx_6 := Lib.hid (Xx_5.out.keep hb)
  have Xy_6 := Lib.hid (Xy_5.out.keep hb)
  have Lx_6 := Lib.hid (Lx_5.out.keep hb (Nat.le_refl _))
  have Ly_6 := Lib.hid (Ly_5.out.keep hb (Nat.le_refl _))
  have Lr_6 := Lib.hid (Lr.out.keep hb (Nat.le_refl _))
  clear Xx_5
  clear Xy_5
  clear Lx_5
  clear Ly_5
  clear Lr
  clear hb
  have Xr := Lib.hid hq'.out
  clear hq'
  refine (sameFrame9_any ys.length ys.length ys ys _ _ _ _ _ hly hly Ly_6.out Lr_6.out).mono ?_
  rw [show sfB ys.length ys ys.length ys = true by simp [sfB]]
  rintro e w4 ⟨rfl, hb⟩
  have z7 : vr.heap.size ≤ w4.heap.size := hb.size
  have B7 := Lib.hid (B6.out.trans (hb.mono B6.out.size))
  have Xx_7 := Lib.hid (Xx_6.out.keep hb)
  have Xy_7 := Lib.hid (Xy_6.out.keep hb)
  have Xr_7 := Lib.hid (Xr.out.keep hb)
  have Lx_7 := Lib.hid (Lx_6.out.keep hb (Nat.le_refl _))
  have Ly_7 := Lib.hid (Ly_6.out.keep hb (Nat.le_refl _))
  have Lr_7 := Lib.hid (Lr_6.out.keep hb (Nat.le_refl _))
  clear Xx_6
  clear Xy_6
  clear Xr
  clear Lx_6
  clear Ly_6
  clear Lr_6
  clear hb
  by_cases hc0 : c = 0
  case neg =>
    have hcn : (c != 0) = true := by simpa using hc0
    go_wp2
    go_ret
    exact ⟨rfl, B7.out⟩
  subst hc0
  have ALL := clos_all CS.out.symm
  rw [← YS.out] at ALL
  obtain ⟨hn, h8, hk, hyl, hfy, hcy, hsy, hrx, hry, hfl, hfx, hand⟩ := ALL
  obtain ⟨q, rfl⟩ := Int.eq_ofNat_of_zero_le (show 0 ≤ f by rcases kn_cases hk with e | e | e | e <;> omega)
  rw [Int.toNat_natCast] at hfl hfx
  have hq11 : q < 11 := by rcases kn_cases hk with e | e | e | e <;> omega
  have RY := Lib.hid hry
  have RX := Lib.hid hrx
  have CY := Lib.hid hcy
  have SY := Lib.hid hsy
  have FY := Lib.hid hfl
  have FX := Lib.hid hfx
  have AN := Lib.hid hand
  have HFY := Lib.hid hfy
  have HYL := Lib.hid hyl
  have FLY := Lib.hid (show nth (flL ys 11) q = 1 by rw [flL_tab, tab_nth _ _ _ hq11, hfl]; rfl)
  have FLX := Lib.hid (show nth (flL xs 11) q = if sfB n xs ys.length ys then 1 else 0 by rw [flL_tab, tab_nth _ _ _ hq11, hfx])
  clear hry hrx hcy hsy hfl hfx hand hfy hyl hk hn
  obtain ⟨lt0, ca0, cb0⟩ := Xy_7.out
  go_wp2_with fail
  clear lt0 ca0 cb0
  refine (implFrameFlags_any ys.length ys _ _ _ _ hly Ly_7.out).mono ?_
  rw [RY.out]
  rintro e w5 ⟨v5, rfl, ho, hb⟩
  obtain ⟨ag, cg, rfl, hat, -, -, -⟩ := (show Own w5 _ v5 (flL ys 11) from ho).at
  rw [flL_len] at hat ⊢
  clear ho
  have z8 : w4.heap.size ≤ w5.heap.size := hb.size
  have B8 := Lib.hid (B7.out.trans (hb.mono B7.out.size))
  have Xx_8 := Lib.hid (Xx_7.out.keep hb)
  have Xy_8 := Lib.hid (Xy_7.out.keep hb)
  have Xr_8 := Lib.hid (Xr_7.out.keep hb)
  have Lx_8 := Lib.hid (Lx_7.out.keep hb (Nat.le_refl _))
  have Ly_8 := Lib.hid (Ly_7.out.keep hb (Nat.le_refl _))
  have Lr_8 := Lib.hid (Lr_7.out.keep hb (Nat.le_refl _))
  clear Xx_7
  clear Xy_7
  clear Xr_7
  clear Lx_7
  clear Ly_7
  clear Lr_7
  clear hb
  have Lg := Lib.hid hat
  clear hat
  obtain ⟨lt0, ca0, cb0⟩ := Xy_8.out
  go_wp2_with fail
  clear lt0 ca0 cb0
  refine (implCloseFrame_any ys.length q ys _ _ _ _ _ hly (eps_ok _ ys) Ly_8.out).mono ?_
  rw [show clL ys.length ys (Classical.epsilon (EuSpec ys)) q = ys from SY.out, CY.out]
  rintro e w6 ⟨⟨v6, rfl, ho⟩, hb⟩
  obtain ⟨aa, cc, rfl, hat, -⟩ := At_of_OwnF ho
  clear ho
  have z9 : w5.heap.size ≤ w6.heap.size := hb.size
  have B9 := Lib.hid (B8.out.trans (hb.mono B8.out.size))
  have Xx_9 := Lib.hid (Xx_8.out.keep hb)
  have Xy_9 := Lib.hid (Xy_8.out.keep hb)
  have Xr_9 := Lib.hid (Xr_8.out.keep hb)
  have Lx_9 := Lib.hid (Lx_8.out.keep hb (Nat.le_refl _))
  have Ly_9 := Lib.hid (Ly_8.out.keep hb (Nat.le_refl _))
  have Lr_9 := Lib.hid (Lr_8.out.keep hb (Nat.le_refl _))
  have Lg_9 := Lib.hid (Lg.out.keep hb (Nat.le_refl _))
  clear Xx_8
  clear Xy_8
  clear Xr_8
  clear Lx_8
  clear Ly_8
  clear Lr_8
  clear Lg
  clear hb
  have La := Lib.hid (show At w6 aa ys.length ys from hat)
  clear hat
  obtain ⟨lt0, ca0, cb0⟩ := Xx_9.out
  go_wp2_with fail
  clear lt0 ca0 cb0
  obtain ⟨va, hva, hb, hq⟩ : ∃ V, V = w6.alloc (.cells #[.int .i64 ys.length, .slice aa ys.length cc] 40) ∧ Below w6.heap.size w6 V ∧ Bx V w6.heap.size ys.length aa ys.length cc := ⟨_, rfl, (alloc_keep _ _).1, Bx.new _ _ _ _ _ _⟩
  rw [← hva]
  clear hva
  have hq' := Lib.hid hq
  clear hq
  have z10 : w6.heap.size ≤ va.heap.size := hb.size
  have B10 := Lib.hid (B9.out.trans (hb.mono B9.out.size))
  have Xx_10 := Lib.hid (Xx_9.out.keep hb)
  have Xy_10 := Lib.hid (Xy_9.out.keep hb)
  have Xr_10 := Lib.hid (Xr_9.out.keep hb)
  have Lx_10 := Lib.hid (Lx_9.out.keep hb (Nat.le_refl _))
  have Ly_10 := Lib.hid (Ly_9.out.keep hb (Nat.le_refl _))
  have Lr_10 := Lib.hid (Lr_9.out.keep hb (Nat.le_refl _))
  have Lg_10 := Lib.hid (Lg_9.out.keep hb (Nat.le_refl _))
  have La_10 := Lib.hid (La.out.keep hb (Nat.le_refl _))
  clear Xx_9
  clear Xy_9
  clear Xr_9
  clear Lx_9
  clear Ly_9
  clear Lr_9
  clear Lg_9
  clear La
  clear hb
  have Xa := Lib.hid hq'.out
  clear hq'
  refine (implFrameFlags_any n xs _ _ _ _ hl Lx_10.out).mono ?_
  rw [RX.out]
  rintro e w7 ⟨v7, rfl, ho, hb⟩
  obtain ⟨ab, cb', rfl, hat, -, -, -⟩ := (show Own w7 _ v7 (flL xs 11) from ho).at
  rw [flL_len] at hat ⊢
  clear ho
  have z11 : va.heap.size ≤ w7.heap.size := hb.size
  have B11 := Lib.hid (B10.out.trans (hb.mono B10.out.size))
  have Xx_11 := Lib.hid (Xx_10.out.keep hb)
  have Xy_11 := Lib.hid (Xy_10.out.keep hb)
  have Xr_11 := Lib.hid (Xr_10.out.keep hb)
  have Xa_11 := Lib.hid (Xa.out.keep hb)
  have Lx_11 := Lib.hid (Lx_10.out.keep hb (Nat.le_refl _))
  have Ly_11 := Lib.hid (Ly_10.out.keep hb (Nat.le_refl _))
  have Lr_11 := Lib.hid (Lr_10.out.keep hb (Nat.le_refl _))
  have Lg_11 := Lib.hid (Lg_10.out.keep hb (Nat.le_refl _))
  have La_11 := Lib.hid (La_10.out.keep hb (Nat.le_refl _))
  clear Xx_10
  clear Xy_10
  clear Xr_10
  clear Xa
  clear Lx_10
  clear Ly_10
  clear Lr_10
  clear Lg_10
  clear La_10
  clear hb
  have Lb := Lib.hid hat
  clear hat
  obtain ⟨g1, o1, rfl, hb1, hcg⟩ := Lg_11.out.2.resolve_left (by omega)
  obtain ⟨g2, o2, rfl, hb2, hcb⟩ := Lb.out.2.resolve_left (by omega)
  have hg1 := hcg q hq11
  rw [FLY.out] at hg1
  have hg2 := hcb q hq11
  rw [FLX.out] at hg2
  clear hcg hcb
  obtain ⟨s, hs⟩ : ∃ s, s = sfB n xs ys.length ys := ⟨_, rfl⟩
  rw [← hs] at hg2
  have HSS := Lib.hid hs
  clear hs
  obtain ⟨ct0, ca0, cb0⟩ := Xx_11.out
  obtain ⟨ct1, ca1, cb1⟩ := Xy_11.out
  obtain ⟨ct2, ca2, cb2⟩ := Xa_11.out
  cases s
  case false =>
    replace hg2 : w7.cell? ⟨g2, o2 + q, none⟩ = some (.int .i64 0) := hg2
    have hc1 := hg1
    have hc2 := hg2
    go_wp2
    have hq11i : (q : Int) < 11 := by omega
    go_region_held3 (fun w' => w'.cell? ⟨w1.heap.size, 0, none⟩ = some (.int .i64 n) ∧ w'.cell? ⟨w1.heap.size, 1, none⟩ = some (.slice ax xs.length cx) ∧ w'.cell? ⟨w2.heap.size, 0, none⟩ = some (.int .i64 ys.length) ∧ w'.cell? ⟨w2.heap.size, 1, none⟩ = some (.slice ay ys.length cy) ∧ w'.cell? ⟨w6.heap.size, 0, none⟩ = some (.int .i64 ys.length) ∧ w'.cell? ⟨w6.heap.size, 1, none⟩ = some (.slice aa ys.length cc) ∧ w'.cell? ⟨g1, o1 + q, none⟩ = some (.int .i64 1) ∧ w'.cell? ⟨g2, o2 + q, none⟩ = some (.int .i64 0)) (first | exact ⟨ea0, eb0, ea1, eb1, ea2, eb2, he1, he2⟩ | exact ⟨da0, db0, da1, db1, da2, db2, hd1, hd2⟩ | exact ⟨ca0, cb0, ca1, cb1, ca2, cb2, hc1, hc2⟩ | go_keep) (first | (go_at_call_of 35 cc; refine (sameFrame9_any ys.length ys.length ys ys _ _ _ _ _ hly hly (show At w7.drew _ _ _ from La_11.out) (show At w7.drew _ _ _ from Ly_11.out)).mono ?_; rw [show sfB ys.length ys ys.length ys = true by simp [sfB]]; rintro e w8 ⟨rfl, hb⟩; have T1 := Lib.hid (show Below w7.heap.size w7 w8 from below_of_drew hb); clear hb; obtain ⟨dt0, da0, db0⟩ := Xx_11.out.keep T1.out; obtain ⟨dt1, da1, db1⟩ := Xy_11.out.keep T1.out; obtain ⟨dt2, da2, db2⟩ := Xa_11.out.keep T1.out; have hd1 := (Below.cell T1.out (p := ⟨g1, o1 + q, none⟩) hb1).trans hg1; have hd2 := (Below.cell T1.out (p := ⟨g2, o2 + q, none⟩) hb2).trans hg2) | (go_at_call_of 35 cx; refine (sameFrame9_any n ys.length xs ys _ _ _ _ _ hl hly (Lx_11.out.keep T1.out (Nat.le_refl _)) (Ly_11.out.keep T1.out (Nat.le_refl _))).mono ?_; rw [← HSS.out]; rintro e w9 ⟨rfl, hb⟩; have T2 := Lib.hid (T1.out.trans (hb.mono T1.out.size)); clear hb; obtain ⟨et0, ea0, eb0⟩ := Xx_11.out.keep T2.out; obtain ⟨et1, ea1, eb1⟩ := Xy_11.out.keep T2.out; obtain ⟨et2, ea2, eb2⟩ := Xa_11.out.keep T2.out; have he1 := (Below.cell T2.out (p := ⟨g1, o1 + q, none⟩) hb1).trans hg1; have he2 := (Below.cell T2.out (p := ⟨g2, o2 + q, none⟩) hb2).trans hg2))
    all_goals
      clear ca0 cb0 ca1 cb1 ca2 cb2 hc1 hc2 hg1 hg2 da0 db0 da1 db1 da2 db2 hd1 hd2 he1 he2
      have LX := Lib.hid (Lx_11.out.keep T2.out (Nat.le_refl _))
      have LY := Lib.hid (Ly_11.out.keep T2.out (Nat.le_refl _))
      have BE := Lib.hid (B11.out.trans (T2.out.mono B11.out.size))
      go_wp2
      go_loopw [15] (fun i wr => ∃ k u : Nat, k ≤ xs.length ∧ i = .int .i64 k ∧ wr = w9.drewN u) (fun i _ => xs.length - (intOf i).toNat)
      case atStart => exact ⟨0, 0, Nat.zero_le _, rfl, rfl⟩
      case round =>
        obtain ⟨k, u, hk, rfl, rfl⟩ := hrel
        by_cases hlt : k < xs.length
        · obtain ⟨p1, r1, rfl, -, hd1⟩ := LX.out.2.resolve_left (by omega)
          have hlt2 : k < ys.length := by have := HYL.out; omega
          obtain ⟨p2, r2, rfl, -, hd2⟩ := LY.out.2.resolve_left (by omega)
          have hcell := hd1 k hlt
          have hcell2 := hd2 k hlt2
          have hz := AN.out k hlt
          clear hd1 hd2
          go_wp2
          go_region
          all_goals
            go_wp2
            go_roundw
            case rel => exact ⟨k + 1, u + 1, hlt, by go_num, rfl⟩
            case measure => simp [intOf]; omega
        · obtain rfl : k = xs.length := by omega
          go_wp2
          go_ret
          exact ⟨rfl, below_drewN BE.out u⟩
  case true =>
    replace hg2 : w7.cell? ⟨g2, o2 + q, none⟩ = some (.int .i64 1) := hg2
    have hc1 := hg1
    have hc2 := hg2
    go_wp2
    have hq11i : (q : Int) < 11 := by omega
    go_region_held3 (fun w' => w'.cell? ⟨w1.heap.size, 0, none⟩ = some (.int .i64 n) ∧ w'.cell? ⟨w1.heap.size, 1, none⟩ = some (.slice ax xs.length cx) ∧ w'.cell? ⟨w2.heap.size, 0, none⟩ = some (.int .i64 ys.length) ∧ w'.cell? ⟨w2.heap.size, 1, none⟩ = some (.slice ay ys.length cy) ∧ w'.cell? ⟨w6.heap.size, 0, none⟩ = some (.int .i64 ys.length) ∧ w'.cell? ⟨w6.heap.size, 1, none⟩ = some (.slice aa ys.length cc) ∧ w'.cell? ⟨g1, o1 + q, none⟩ = some (.int .i64 1) ∧ w'.cell? ⟨g2, o2 + q, none⟩ = some (.int .i64 1)) (first | exact ⟨ea0, eb0, ea1, eb1, ea2, eb2, he1, he2⟩ | exact ⟨da0, db0, da1, db1, da2, db2, hd1, hd2⟩ | exact ⟨ca0, cb0, ca1, cb1, ca2, cb2, hc1, hc2⟩ | go_keep) (first | (go_at_call_of 35 cc; refine (sameFrame9_any ys.length ys.length ys ys _ _ _ _ _ hly hly (show At w7.drew _ _ _ from La_11.out) (show At w7.drew _ _ _ from Ly_11.out)).mono ?_; rw [show sfB ys.length ys ys.length ys = true by simp [sfB]]; rintro e w8 ⟨rfl, hb⟩; have T1 := Lib.hid (show Below w7.heap.size w7 w8 from below_of_drew hb); clear hb; obtain ⟨dt0, da0, db0⟩ := Xx_11.out.keep T1.out; obtain ⟨dt1, da1, db1⟩ := Xy_11.out.keep T1.out; obtain ⟨dt2, da2, db2⟩ := Xa_11.out.keep T1.out; have hd1 := (Below.cell T1.out (p := ⟨g1, o1 + q, none⟩) hb1).trans hg1; have hd2 := (Below.cell T1.out (p := ⟨g2, o2 + q, none⟩) hb2).trans hg2) | (go_at_call_of 35 cx; refine (sameFrame9_any n ys.length xs ys _ _ _ _ _ hl hly (Lx_11.out.keep T1.out (Nat.le_refl _)) (Ly_11.out.keep T1.out (Nat.le_refl _))).mono ?_; rw [← HSS.out]; rintro e w9 ⟨rfl, hb⟩; have T2 := Lib.hid (T1.out.trans (hb.mono T1.out.size)); clear hb; obtain ⟨et0, ea0, eb0⟩ := Xx_11.out.keep T2.out; obtain ⟨et1, ea1, eb1⟩ := Xy_11.out.keep T2.out; obtain ⟨et2, ea2, eb2⟩ := Xa_11.out.keep T2.out; have he1 := (Below.cell T2.out (p := ⟨g1, o1 + q, none⟩) hb1).trans hg1; have he2 := (Below.cell T2.out (p := ⟨g2, o2 + q, none⟩) hb2).trans hg2))
    all_goals
      clear ca0 cb0 ca1 cb1 ca2 cb2 hc1 hc2 hg1 hg2 da0 db0 da1 db1 da2 db2 hd1 hd2 he1 he2
      have LX := Lib.hid (Lx_11.out.keep T2.out (Nat.le_refl _))
      have LY := Lib.hid (Ly_11.out.keep T2.out (Nat.le_refl _))
      have BE := Lib.hid (B11.out.trans (T2.out.mono B11.out.size))
      go_wp2
      go_loopw [15] (fun i wr => ∃ k u : Nat, k ≤ xs.length ∧ i = .int .i64 k ∧ wr = w9.drewN u) (fun i _ => xs.length - (intOf i).toNat)
      case atStart => exact ⟨0, 0, Nat.zero_le _, rfl, rfl⟩
      case round =>
        obtain ⟨k, u, hk, rfl, rfl⟩ := hrel
        by_cases hlt : k < xs.length
        · obtain ⟨p1, r1, rfl, -, hd1⟩ := LX.out.2.resolve_left (by omega)
          have hlt2 : k < ys.length := by have := HYL.out; omega
          obtain ⟨p2, r2, rfl, -, hd2⟩ := LY.out.2.resolve_left (by omega)
          have hcell := hd1 k hlt
          have hcell2 := hd2 k hlt2
          have hz := AN.out k hlt
          clear hd1 hd2
          go_wp2
          go_region
          all_goals
            go_wp2
            go_roundw
            case rel => exact ⟨k + 1, u + 1, hlt, by go_num, rfl⟩
            case measure => simp [intOf]; omega
        · obtain rfl : k = xs.length := by omega
          go_wp2
          go_ret
          exact ⟨rfl, below_drewN BE.out u⟩

end Go.Proofs.Ytpedinmflhgcoaa
